/-
  Ite, Xor, Maj.
-/
import Derived.Test.YtifecnnkkbpglaaGc
namespace Go.Proofs.Ytifecnnkkbpglaa
open Go.RowKit
set_option linter.unusedVariables false

theorem rng_within {n : Nat} {c x : Int} (h0 : 0 < n) (hx : rng n x) : rng n (withinF c x) := by
  unfold withinF
  split
  · exact rng_zero h0
  · split
    · exact rng_one h0
    · exact hx

theorem hd_within {n : Nat} {cs : List (List Int)} {val : Nat → Bool} {is : List Int} (g : Good n cs val is) {c x : Int} (hc : 0 ≤ c) (h : hd val c = true) : hd val (withinF c x) = hd val x := by
  unfold withinF
  split
  · rename_i e; rw [e, h]; exact hd_zero g
  · split
    · rename_i e; rw [e, hd_not _ hc, h]; exact hd_one g
    · rfl

theorem ite_same {n : Nat} {cs : List (List Int)} {val : Nat → Bool} {is : List Int} (g : Good n cs val is) {c a b : Int} (hc : rng n c) : iteB (hd val c) (hd val (withinF c a)) (hd val (withinF (notF c) b)) = iteB (hd val c) (hd val a) (hd val b) := by
  cases h : hd val c
  · rw [hd_within g (c := notF c) (rng_not hc).1 (by rw [hd_not _ hc.1, h]; rfl)]; rfl
  · rw [hd_within g hc.1 h]; rfl

theorem ite_list (n : Nat) (cs : List (List Int)) (y c a b : Int) (hy : y = 2 * (n : Int)) : cs ++ [clF y [c, a]] ++ [clF y [notF c, b]] ++ [clF (notF y) [c, notF a]] ++ [clF (notF y) [notF c, notF b]] = cs ++ (iteD n c a b).map fun d => clF d.1 d.2 := by
  subst hy; simp [iteD]

set_option maxHeartbeats 4000000 in
theorem ite_any {B : BT} {gb n : Nat} {cs : List (List Int)} {val : Nat → Bool} {is : List Int} (w : World) (g : Good n cs val is) (h : Gt B gb w n cs) (hn : n ≤ 10000) (c a b : Int) (hc : rng n c) (ha : rng n a) (hb : rng n b) :
    Calls Try.prog 42 #[.pointer (some ⟨gb, 0, none⟩), .int .i64 c, .int .i64 a, .int .i64 b] w fun e w' => ∃ y, e = .returned (.int .i64 y) ∧ Hid (GEnd B gb n cs val is (iteB (hd val c) (hd val a) (hd val b)) w w' y) := by
  have HG := hid g
  have G := hid h
  have HP := hid h.vq
  have HH := hid (have_yes (n := n) (xs := [c, a, b]) (by simp [ha, hb, hc]))
  have rc := hid hc
  have rnc := hid (rng_not hc)
  have fc := hid (rng_fit hc hn)
  have fa := hid (rng_fit ha hn)
  have fb := hid (rng_fit hb hn)
  have fnc := hid (rng_fit (rng_not hc) hn)
  obtain ⟨p, ep⟩ : ∃ p, p = withinF c a := ⟨_, rfl⟩
  obtain ⟨q, eq⟩ : ∃ q, q = withinF (notF c) b := ⟨_, rfl⟩
  have hd0 : iteB (hd val c) (hd val p) (hd val q) = iteB (hd val c) (hd val a) (hd val b) := by rw [ep, eq]; exact ite_same g hc
  have rp0 : rng n p := by rw [ep]; exact rng_within g.pos ha
  have rq0 : rng n q := by rw [eq]; exact rng_within g.pos hb
  have EP := hid ep
  have EQ := hid eq
  clear ep eq
  have rp := hid rp0
  have rq := hid rq0
  have fp := hid (rng_fit rp0 hn)
  have fq := hid (rng_fit rq0 hn)
  have fnp := hid (rng_fit (rng_not rp0) hn)
  have fnq := hid (rng_fit (rng_not rq0) hn)
  have HR := hid hd0
  have HL : Hid (cs.length ≤ 60000) := hid (by have := g.len; omega)
  have HC0 := hid hc.1
  by_cases h1 : c = 0
  · have q1 : (c == 0) = true := by simpa using h1
    have HV : Hid (iteB (hd val c) (hd val p) (hd val q) = hd val p) := hid (by rw [h1, hd_zero g]; simp [iteB])
    clear h1
    clear hc ha hb g h hd0 rp0 rq0
    go_enter Try.func42, Try.ntmps42
    go_wp2_with (first
    | (go_at_call 56; with_reducible (refine (have_three _ _ n HP.out hn c a b fc.out fa.out fb.out).mono ?_); rintro e w1 ⟨rfl, hb1⟩; rw [HH.out]; have hB := hb1.out)
    | (go_at_call 57; with_reducible (refine (within_any c a _ fc.out.2).mono ?_); rintro e w1 ⟨rfl, hb1⟩; rw [← EP.out]; have hB := Below.next hB hb1.out)
    | (go_at_call 57; with_reducible (refine (within_any (notF c) b _ fnc.out.2).mono ?_); rintro e w1 ⟨rfl, hb1⟩; rw [← EQ.out]; have hB := Below.next hB hb1.out)
    | (go_at_call 36; with_reducible (refine (not_any _ _ (by first | exact fc.out.2 | exact fp.out.2 | exact fq.out.2 | exact fy.out.2)).mono ?_); rintro e w2 ⟨rfl, hb2⟩; first | (have G := hid (G.out.below hb2); have X := hid (X.out.below hb2); have F := hid (F.out.trans (FG.below hb2))) | (have hB := Below.next hB hb2))
    | (go_at_call 44; with_reducible (refine (or_any _ HG.out (G.out.below hB) hn _ _ (by first | exact rc.out | exact rnc.out) (by first | exact rq.out | exact rp.out)).mono ?_); rintro e w3 ⟨y, rfl, hend⟩; have hend := hid (hend.out.ahead hB))
    | (go_at_call 58; with_reducible (refine (and_any _ HG.out (G.out.below hB) hn _ _ (by first | exact rc.out | exact rnc.out) (by first | exact rq.out | exact rp.out)).mono ?_); rintro e w3 ⟨y, rfl, hend⟩; have hend := hid (hend.out.ahead hB))
    | (go_at_call 13; with_reducible (refine (output_any _ (G.out.below hB) hn).mono ?_); rintro e w3 ⟨cb, y, rfl, hy, y0, y1, G, X, F⟩; have F := hid ((FG.below hB).trans F.out); have fy : Hid (-9223372036854775808 ≤ y ∧ y ≤ 9223372036854775807) := hid ⟨by omega, y1⟩; have fny := hid (fit_not fy.out.1 fy.out.2))
    | (go_at_call 35; with_reducible (refine (add_two _ G.out X.out (by have := HL.out; first | omega | (simp only [len_one]; omega)) _ _ _ (by first | exact fy.out | exact fny.out) (by first | exact fc.out | exact fnc.out) (by first | exact fp.out | exact fnp.out | exact fq.out | exact fnq.out)).mono ?_); rintro e w4 ⟨rfl, G, X, F2⟩; have F := hid (F.out.trans F2.out); clear F2))
    go_ret
    exact ⟨_, rfl, hid (GEnd.same HG.out G.out hB rp.out (by rw [← HR.out, HV.out]))⟩
  have q1 : (c == 0) = false := by simpa using h1
  by_cases h2 : p = q
  · have q2 : (p == q) = true := by simpa using h2
    have HV : Hid (iteB (hd val c) (hd val p) (hd val q) = hd val p) := hid (by rw [h2]; cases hd val c <;> simp [iteB])
    clear h1 h2
    clear hc ha hb g h hd0 rp0 rq0
    go_enter Try.func42, Try.ntmps42
    go_wp2_with (first
    | (go_at_call 56; with_reducible (refine (have_three _ _ n HP.out hn c a b fc.out fa.out fb.out).mono ?_); rintro e w1 ⟨rfl, hb1⟩; rw [HH.out]; have hB := hb1.out)
    | (go_at_call 57; with_reducible (refine (within_any c a _ fc.out.2).mono ?_); rintro e w1 ⟨rfl, hb1⟩; rw [← EP.out]; have hB := Below.next hB hb1.out)
    | (go_at_call 57; with_reducible (refine (within_any (notF c) b _ fnc.out.2).mono ?_); rintro e w1 ⟨rfl, hb1⟩; rw [← EQ.out]; have hB := Below.next hB hb1.out)
    | (go_at_call 36; with_reducible (refine (not_any _ _ (by first | exact fc.out.2 | exact fp.out.2 | exact fq.out.2 | exact fy.out.2)).mono ?_); rintro e w2 ⟨rfl, hb2⟩; first | (have G := hid (G.out.below hb2); have X := hid (X.out.below hb2); have F := hid (F.out.trans (FG.below hb2))) | (have hB := Below.next hB hb2))
    | (go_at_call 44; with_reducible (refine (or_any _ HG.out (G.out.below hB) hn _ _ (by first | exact rc.out | exact rnc.out) (by first | exact rq.out | exact rp.out)).mono ?_); rintro e w3 ⟨y, rfl, hend⟩; have hend := hid (hend.out.ahead hB))
    | (go_at_call 58; with_reducible (refine (and_any _ HG.out (G.out.below hB) hn _ _ (by first | exact rc.out | exact rnc.out) (by first | exact rq.out | exact rp.out)).mono ?_); rintro e w3 ⟨y, rfl, hend⟩; have hend := hid (hend.out.ahead hB))
    | (go_at_call 13; with_reducible (refine (output_any _ (G.out.below hB) hn).mono ?_); rintro e w3 ⟨cb, y, rfl, hy, y0, y1, G, X, F⟩; have F := hid ((FG.below hB).trans F.out); have fy : Hid (-9223372036854775808 ≤ y ∧ y ≤ 9223372036854775807) := hid ⟨by omega, y1⟩; have fny := hid (fit_not fy.out.1 fy.out.2))
    | (go_at_call 35; with_reducible (refine (add_two _ G.out X.out (by have := HL.out; first | omega | (simp only [len_one]; omega)) _ _ _ (by first | exact fy.out | exact fny.out) (by first | exact fc.out | exact fnc.out) (by first | exact fp.out | exact fnp.out | exact fq.out | exact fnq.out)).mono ?_); rintro e w4 ⟨rfl, G, X, F2⟩; have F := hid (F.out.trans F2.out); clear F2))
    go_ret
    exact ⟨_, rfl, hid (GEnd.same HG.out G.out hB rp.out (by rw [← HR.out, HV.out]))⟩
  have q2 : (p == q) = false := by simpa using h2
  by_cases h3 : c = 1
  · have q3 : (c == 1) = true := by simpa using h3
    have HV : Hid (iteB (hd val c) (hd val p) (hd val q) = hd val q) := hid (by rw [h3, hd_one g]; simp [iteB])
    clear h1 h2 h3
    clear hc ha hb g h hd0 rp0 rq0
    go_enter Try.func42, Try.ntmps42
    go_wp2_with (first
    | (go_at_call 56; with_reducible (refine (have_three _ _ n HP.out hn c a b fc.out fa.out fb.out).mono ?_); rintro e w1 ⟨rfl, hb1⟩; rw [HH.out]; have hB := hb1.out)
    | (go_at_call 57; with_reducible (refine (within_any c a _ fc.out.2).mono ?_); rintro e w1 ⟨rfl, hb1⟩; rw [← EP.out]; have hB := Below.next hB hb1.out)
    | (go_at_call 57; with_reducible (refine (within_any (notF c) b _ fnc.out.2).mono ?_); rintro e w1 ⟨rfl, hb1⟩; rw [← EQ.out]; have hB := Below.next hB hb1.out)
    | (go_at_call 36; with_reducible (refine (not_any _ _ (by first | exact fc.out.2 | exact fp.out.2 | exact fq.out.2 | exact fy.out.2)).mono ?_); rintro e w2 ⟨rfl, hb2⟩; first | (have G := hid (G.out.below hb2); have X := hid (X.out.below hb2); have F := hid (F.out.trans (FG.below hb2))) | (have hB := Below.next hB hb2))
    | (go_at_call 44; with_reducible (refine (or_any _ HG.out (G.out.below hB) hn _ _ (by first | exact rc.out | exact rnc.out) (by first | exact rq.out | exact rp.out)).mono ?_); rintro e w3 ⟨y, rfl, hend⟩; have hend := hid (hend.out.ahead hB))
    | (go_at_call 58; with_reducible (refine (and_any _ HG.out (G.out.below hB) hn _ _ (by first | exact rc.out | exact rnc.out) (by first | exact rq.out | exact rp.out)).mono ?_); rintro e w3 ⟨y, rfl, hend⟩; have hend := hid (hend.out.ahead hB))
    | (go_at_call 13; with_reducible (refine (output_any _ (G.out.below hB) hn).mono ?_); rintro e w3 ⟨cb, y, rfl, hy, y0, y1, G, X, F⟩; have F := hid ((FG.below hB).trans F.out); have fy : Hid (-9223372036854775808 ≤ y ∧ y ≤ 9223372036854775807) := hid ⟨by omega, y1⟩; have fny := hid (fit_not fy.out.1 fy.out.2))
    | (go_at_call 35; with_reducible (refine (add_two _ G.out X.out (by have := HL.out; first | omega | (simp only [len_one]; omega)) _ _ _ (by first | exact fy.out | exact fny.out) (by first | exact fc.out | exact fnc.out) (by first | exact fp.out | exact fnp.out | exact fq.out | exact fnq.out)).mono ?_); rintro e w4 ⟨rfl, G, X, F2⟩; have F := hid (F.out.trans F2.out); clear F2))
    go_ret
    exact ⟨_, rfl, hid (GEnd.same HG.out G.out hB rq.out (by rw [← HR.out, HV.out]))⟩
  have q3 : (c == 1) = false := by simpa using h3
  by_cases h4 : p = 0
  · have q4 : (p == 0) = true := by simpa using h4
    have HV : Hid (iteB (hd val c) (hd val p) (hd val q) = (hd val c || hd val q)) := hid (by rw [h4, hd_zero g]; cases hd val c <;> simp [iteB])
    clear h1 h2 h3 h4
    clear hc ha hb g h hd0 rp0 rq0
    go_enter Try.func42, Try.ntmps42
    go_wp2_with (first
    | (go_at_call 56; with_reducible (refine (have_three _ _ n HP.out hn c a b fc.out fa.out fb.out).mono ?_); rintro e w1 ⟨rfl, hb1⟩; rw [HH.out]; have hB := hb1.out)
    | (go_at_call 57; with_reducible (refine (within_any c a _ fc.out.2).mono ?_); rintro e w1 ⟨rfl, hb1⟩; rw [← EP.out]; have hB := Below.next hB hb1.out)
    | (go_at_call 57; with_reducible (refine (within_any (notF c) b _ fnc.out.2).mono ?_); rintro e w1 ⟨rfl, hb1⟩; rw [← EQ.out]; have hB := Below.next hB hb1.out)
    | (go_at_call 36; with_reducible (refine (not_any _ _ (by first | exact fc.out.2 | exact fp.out.2 | exact fq.out.2 | exact fy.out.2)).mono ?_); rintro e w2 ⟨rfl, hb2⟩; first | (have G := hid (G.out.below hb2); have X := hid (X.out.below hb2); have F := hid (F.out.trans (FG.below hb2))) | (have hB := Below.next hB hb2))
    | (go_at_call 44; with_reducible (refine (or_any _ HG.out (G.out.below hB) hn _ _ (by first | exact rc.out | exact rnc.out) (by first | exact rq.out | exact rp.out)).mono ?_); rintro e w3 ⟨y, rfl, hend⟩; have hend := hid (hend.out.ahead hB))
    | (go_at_call 58; with_reducible (refine (and_any _ HG.out (G.out.below hB) hn _ _ (by first | exact rc.out | exact rnc.out) (by first | exact rq.out | exact rp.out)).mono ?_); rintro e w3 ⟨y, rfl, hend⟩; have hend := hid (hend.out.ahead hB))
    | (go_at_call 13; with_reducible (refine (output_any _ (G.out.below hB) hn).mono ?_); rintro e w3 ⟨cb, y, rfl, hy, y0, y1, G, X, F⟩; have F := hid ((FG.below hB).trans F.out); have fy : Hid (-9223372036854775808 ≤ y ∧ y ≤ 9223372036854775807) := hid ⟨by omega, y1⟩; have fny := hid (fit_not fy.out.1 fy.out.2))
    | (go_at_call 35; with_reducible (refine (add_two _ G.out X.out (by have := HL.out; first | omega | (simp only [len_one]; omega)) _ _ _ (by first | exact fy.out | exact fny.out) (by first | exact fc.out | exact fnc.out) (by first | exact fp.out | exact fnp.out | exact fq.out | exact fnq.out)).mono ?_); rintro e w4 ⟨rfl, G, X, F2⟩; have F := hid (F.out.trans F2.out); clear F2))
    go_ret
    exact ⟨_, rfl, hid (by rw [← HR.out, HV.out]; exact hend.out)⟩
  have q4 : (p == 0) = false := by simpa using h4
  by_cases h5 : p = 1
  · have q5 : (p == 1) = true := by simpa using h5
    have HV : Hid (iteB (hd val c) (hd val p) (hd val q) = (hd val (notF c) && hd val q)) := hid (by rw [h5, hd_one g, hd_not _ hc.1]; cases hd val c <;> simp [iteB])
    clear h1 h2 h3 h4 h5
    clear hc ha hb g h hd0 rp0 rq0
    go_enter Try.func42, Try.ntmps42
    go_wp2_with (first
    | (go_at_call 56; with_reducible (refine (have_three _ _ n HP.out hn c a b fc.out fa.out fb.out).mono ?_); rintro e w1 ⟨rfl, hb1⟩; rw [HH.out]; have hB := hb1.out)
    | (go_at_call 57; with_reducible (refine (within_any c a _ fc.out.2).mono ?_); rintro e w1 ⟨rfl, hb1⟩; rw [← EP.out]; have hB := Below.next hB hb1.out)
    | (go_at_call 57; with_reducible (refine (within_any (notF c) b _ fnc.out.2).mono ?_); rintro e w1 ⟨rfl, hb1⟩; rw [← EQ.out]; have hB := Below.next hB hb1.out)
    | (go_at_call 36; with_reducible (refine (not_any _ _ (by first | exact fc.out.2 | exact fp.out.2 | exact fq.out.2 | exact fy.out.2)).mono ?_); rintro e w2 ⟨rfl, hb2⟩; first | (have G := hid (G.out.below hb2); have X := hid (X.out.below hb2); have F := hid (F.out.trans (FG.below hb2))) | (have hB := Below.next hB hb2))
    | (go_at_call 44; with_reducible (refine (or_any _ HG.out (G.out.below hB) hn _ _ (by first | exact rc.out | exact rnc.out) (by first | exact rq.out | exact rp.out)).mono ?_); rintro e w3 ⟨y, rfl, hend⟩; have hend := hid (hend.out.ahead hB))
    | (go_at_call 58; with_reducible (refine (and_any _ HG.out (G.out.below hB) hn _ _ (by first | exact rc.out | exact rnc.out) (by first | exact rq.out | exact rp.out)).mono ?_); rintro e w3 ⟨y, rfl, hend⟩; have hend := hid (hend.out.ahead hB))
    | (go_at_call 13; with_reducible (refine (output_any _ (G.out.below hB) hn).mono ?_); rintro e w3 ⟨cb, y, rfl, hy, y0, y1, G, X, F⟩; have F := hid ((FG.below hB).trans F.out); have fy : Hid (-9223372036854775808 ≤ y ∧ y ≤ 9223372036854775807) := hid ⟨by omega, y1⟩; have fny := hid (fit_not fy.out.1 fy.out.2))
    | (go_at_call 35; with_reducible (refine (add_two _ G.out X.out (by have := HL.out; first | omega | (simp only [len_one]; omega)) _ _ _ (by first | exact fy.out | exact fny.out) (by first | exact fc.out | exact fnc.out) (by first | exact fp.out | exact fnp.out | exact fq.out | exact fnq.out)).mono ?_); rintro e w4 ⟨rfl, G, X, F2⟩; have F := hid (F.out.trans F2.out); clear F2))
    go_ret
    exact ⟨_, rfl, hid (by rw [← HR.out, HV.out]; exact hend.out)⟩
  have q5 : (p == 1) = false := by simpa using h5
  by_cases h6 : q = 0
  · have q6 : (q == 0) = true := by simpa using h6
    have HV : Hid (iteB (hd val c) (hd val p) (hd val q) = (hd val (notF c) || hd val p)) := hid (by rw [h6, hd_zero g, hd_not _ hc.1]; cases hd val c <;> cases hd val p <;> simp [iteB])
    clear h1 h2 h3 h4 h5 h6
    clear hc ha hb g h hd0 rp0 rq0
    go_enter Try.func42, Try.ntmps42
    go_wp2_with (first
    | (go_at_call 56; with_reducible (refine (have_three _ _ n HP.out hn c a b fc.out fa.out fb.out).mono ?_); rintro e w1 ⟨rfl, hb1⟩; rw [HH.out]; have hB := hb1.out)
    | (go_at_call 57; with_reducible (refine (within_any c a _ fc.out.2).mono ?_); rintro e w1 ⟨rfl, hb1⟩; rw [← EP.out]; have hB := Below.next hB hb1.out)
    | (go_at_call 57; with_reducible (refine (within_any (notF c) b _ fnc.out.2).mono ?_); rintro e w1 ⟨rfl, hb1⟩; rw [← EQ.out]; have hB := Below.next hB hb1.out)
    | (go_at_call 36; with_reducible (refine (not_any _ _ (by first | exact fc.out.2 | exact fp.out.2 | exact fq.out.2 | exact fy.out.2)).mono ?_); rintro e w2 ⟨rfl, hb2⟩; first | (have G := hid (G.out.below hb2); have X := hid (X.out.below hb2); have F := hid (F.out.trans (FG.below hb2))) | (have hB := Below.next hB hb2))
    | (go_at_call 44; with_reducible (refine (or_any _ HG.out (G.out.below hB) hn _ _ (by first | exact rc.out | exact rnc.out) (by first | exact rq.out | exact rp.out)).mono ?_); rintro e w3 ⟨y, rfl, hend⟩; have hend := hid (hend.out.ahead hB))
    | (go_at_call 58; with_reducible (refine (and_any _ HG.out (G.out.below hB) hn _ _ (by first | exact rc.out | exact rnc.out) (by first | exact rq.out | exact rp.out)).mono ?_); rintro e w3 ⟨y, rfl, hend⟩; have hend := hid (hend.out.ahead hB))
    | (go_at_call 13; with_reducible (refine (output_any _ (G.out.below hB) hn).mono ?_); rintro e w3 ⟨cb, y, rfl, hy, y0, y1, G, X, F⟩; have F := hid ((FG.below hB).trans F.out); have fy : Hid (-9223372036854775808 ≤ y ∧ y ≤ 9223372036854775807) := hid ⟨by omega, y1⟩; have fny := hid (fit_not fy.out.1 fy.out.2))
    | (go_at_call 35; with_reducible (refine (add_two _ G.out X.out (by have := HL.out; first | omega | (simp only [len_one]; omega)) _ _ _ (by first | exact fy.out | exact fny.out) (by first | exact fc.out | exact fnc.out) (by first | exact fp.out | exact fnp.out | exact fq.out | exact fnq.out)).mono ?_); rintro e w4 ⟨rfl, G, X, F2⟩; have F := hid (F.out.trans F2.out); clear F2))
    go_ret
    exact ⟨_, rfl, hid (by rw [← HR.out, HV.out]; exact hend.out)⟩
  have q6 : (q == 0) = false := by simpa using h6
  by_cases h7 : q = 1
  · have q7 : (q == 1) = true := by simpa using h7
    have HV : Hid (iteB (hd val c) (hd val p) (hd val q) = (hd val c && hd val p)) := hid (by rw [h7, hd_one g]; cases hd val c <;> cases hd val p <;> simp [iteB])
    clear h1 h2 h3 h4 h5 h6 h7
    clear hc ha hb g h hd0 rp0 rq0
    go_enter Try.func42, Try.ntmps42
    go_wp2_with (first
    | (go_at_call 56; with_reducible (refine (have_three _ _ n HP.out hn c a b fc.out fa.out fb.out).mono ?_); rintro e w1 ⟨rfl, hb1⟩; rw [HH.out]; have hB := hb1.out)
    | (go_at_call 57; with_reducible (refine (within_any c a _ fc.out.2).mono ?_); rintro e w1 ⟨rfl, hb1⟩; rw [← EP.out]; have hB := Below.next hB hb1.out)
    | (go_at_call 57; with_reducible (refine (within_any (notF c) b _ fnc.out.2).mono ?_); rintro e w1 ⟨rfl, hb1⟩; rw [← EQ.out]; have hB := Below.next hB hb1.out)
    | (go_at_call 36; with_reducible (refine (not_any _ _ (by first | exact fc.out.2 | exact fp.out.2 | exact fq.out.2 | exact fy.out.2)).mono ?_); rintro e w2 ⟨rfl, hb2⟩; first | (have G := hid (G.out.below hb2); have X := hid (X.out.below hb2); have F := hid (F.out.trans (FG.below hb2))) | (have hB := Below.next hB hb2))
    | (go_at_call 44; with_reducible (refine (or_any _ HG.out (G.out.below hB) hn _ _ (by first | exact rc.out | exact rnc.out) (by first | exact rq.out | exact rp.out)).mono ?_); rintro e w3 ⟨y, rfl, hend⟩; have hend := hid (hend.out.ahead hB))
    | (go_at_call 58; with_reducible (refine (and_any _ HG.out (G.out.below hB) hn _ _ (by first | exact rc.out | exact rnc.out) (by first | exact rq.out | exact rp.out)).mono ?_); rintro e w3 ⟨y, rfl, hend⟩; have hend := hid (hend.out.ahead hB))
    | (go_at_call 13; with_reducible (refine (output_any _ (G.out.below hB) hn).mono ?_); rintro e w3 ⟨cb, y, rfl, hy, y0, y1, G, X, F⟩; have F := hid ((FG.below hB).trans F.out); have fy : Hid (-9223372036854775808 ≤ y ∧ y ≤ 9223372036854775807) := hid ⟨by omega, y1⟩; have fny := hid (fit_not fy.out.1 fy.out.2))
    | (go_at_call 35; with_reducible (refine (add_two _ G.out X.out (by have := HL.out; first | omega | (simp only [len_one]; omega)) _ _ _ (by first | exact fy.out | exact fny.out) (by first | exact fc.out | exact fnc.out) (by first | exact fp.out | exact fnp.out | exact fq.out | exact fnq.out)).mono ?_); rintro e w4 ⟨rfl, G, X, F2⟩; have F := hid (F.out.trans F2.out); clear F2))
    go_ret
    exact ⟨_, rfl, hid (by rw [← HR.out, HV.out]; exact hend.out)⟩
  have q7 : (q == 1) = false := by simpa using h7
  clear h1 h2 h3 h4 h5 h6 h7
  clear hc ha hb g h hd0 rp0 rq0
  go_enter Try.func42, Try.ntmps42
  go_wp2_with (first
    | (go_at_call 56; with_reducible (refine (have_three _ _ n HP.out hn c a b fc.out fa.out fb.out).mono ?_); rintro e w1 ⟨rfl, hb1⟩; rw [HH.out]; have hB := hb1.out)
    | (go_at_call 57; with_reducible (refine (within_any c a _ fc.out.2).mono ?_); rintro e w1 ⟨rfl, hb1⟩; rw [← EP.out]; have hB := Below.next hB hb1.out)
    | (go_at_call 57; with_reducible (refine (within_any (notF c) b _ fnc.out.2).mono ?_); rintro e w1 ⟨rfl, hb1⟩; rw [← EQ.out]; have hB := Below.next hB hb1.out)
    | (go_at_call 36; with_reducible (refine (not_any _ _ (by first | exact fc.out.2 | exact fp.out.2 | exact fq.out.2 | exact fy.out.2)).mono ?_); rintro e w2 ⟨rfl, hb2⟩; first | (have G := hid (G.out.below hb2); have X := hid (X.out.below hb2); have F := hid (F.out.trans (FG.below hb2))) | (have hB := Below.next hB hb2))
    | (go_at_call 44; with_reducible (refine (or_any _ HG.out (G.out.below hB) hn _ _ (by first | exact rc.out | exact rnc.out) (by first | exact rq.out | exact rp.out)).mono ?_); rintro e w3 ⟨y, rfl, hend⟩; have hend := hid (hend.out.ahead hB))
    | (go_at_call 58; with_reducible (refine (and_any _ HG.out (G.out.below hB) hn _ _ (by first | exact rc.out | exact rnc.out) (by first | exact rq.out | exact rp.out)).mono ?_); rintro e w3 ⟨y, rfl, hend⟩; have hend := hid (hend.out.ahead hB))
    | (go_at_call 13; with_reducible (refine (output_any _ (G.out.below hB) hn).mono ?_); rintro e w3 ⟨cb, y, rfl, hy, y0, y1, G, X, F⟩; have F := hid ((FG.below hB).trans F.out); have fy : Hid (-9223372036854775808 ≤ y ∧ y ≤ 9223372036854775807) := hid ⟨by omega, y1⟩; have fny := hid (fit_not fy.out.1 fy.out.2))
    | (go_at_call 35; with_reducible (refine (add_two _ G.out X.out (by have := HL.out; first | omega | (simp only [len_one]; omega)) _ _ _ (by first | exact fy.out | exact fny.out) (by first | exact fc.out | exact fnc.out) (by first | exact fp.out | exact fnp.out | exact fq.out | exact fnq.out)).mono ?_); rintro e w4 ⟨rfl, G, X, F2⟩; have F := hid (F.out.trans F2.out); clear F2))
  go_ret
  refine ⟨_, rfl, hid ⟨n + 1, _, _, HG.out.ite rc.out rp.out rq.out, ?_, by rw [hy.out]; exact y_rng n, by rw [hy.out, hd_new]; exact HR.out, F.out⟩⟩
  rw [← ite_list n cs y c p q hy.out]
  exact G.out

theorem ite_bad (w : World) (p : Value) (n : Nat) (hp : Vq w p n) (hn : n ≤ 10000) (c a b : Int) (fc : -9223372036854775808 ≤ c ∧ c ≤ 9223372036854775807) (fa : -9223372036854775808 ≤ a ∧ a ≤ 9223372036854775807) (fb : -9223372036854775808 ≤ b ∧ b ≤ 9223372036854775807) (hh : haveF n [c, a, b] = false) :
    Calls Try.prog 42 #[p, .int .i64 c, .int .i64 a, .int .i64 b] w fun e w' => e = .returned (.int .i64 (-1)) ∧ Hid (Below w.heap.size w w') := by
  have HP := hid hp
  have HH := hid hh
  clear hp hh
  go_enter Try.func42, Try.ntmps42
  go_wp2_with (go_at_call 56; with_reducible (refine (have_three _ _ n HP.out hn c a b fc fa fb).mono ?_); rintro e w1 ⟨rfl, hb1⟩; rw [HH.out])
  go_ret
  exact ⟨rfl, hb1⟩

end Go.Proofs.Ytifecnnkkbpglaa
