/-
  Maj.
-/
import Derived.Test.YtplhlfmibeennaaGd
namespace Go.Proofs.Ytplhlfmibeennaa
open Go.RowKit
set_option linter.unusedVariables false

theorem maj_list (n : Nat) (cs : List (List Int)) (y a b c : Int) (hy : y = 2 * (n : Int)) : cs ++ [clF y [a, b]] ++ [clF (notF y) [notF a, notF b]] ++ [clF y [b, c]] ++ [clF (notF y) [notF b, notF c]] ++ [clF y [c, a]] ++ [clF (notF y) [notF c, notF a]] = cs ++ (majD n a b c).map fun d => clF d.1 d.2 := by
  subst hy; simp [majD]

theorem majB_rot (a b c : Bool) : majB b c a = majB a b c := by cases a <;> cases b <;> cases c <;> rfl

/-- How far the three pairs are told. -/
def MS (cs : List (List Int)) (y a b c : Int) (k : Nat) (p q r : Int) (cl : List (List Int)) : Prop :=
  (k = 0 ∧ p = a ∧ q = b ∧ r = c ∧ cl = cs) ∨
  (k = 1 ∧ p = b ∧ q = c ∧ r = a ∧ cl = cs ++ [clF y [a, b]] ++ [clF (notF y) [notF a, notF b]]) ∨
  (k = 2 ∧ p = c ∧ q = a ∧ r = b ∧ cl = cs ++ [clF y [a, b]] ++ [clF (notF y) [notF a, notF b]] ++ [clF y [b, c]] ++ [clF (notF y) [notF b, notF c]]) ∨
  (k = 3 ∧ p = a ∧ q = b ∧ r = c ∧ cl = cs ++ [clF y [a, b]] ++ [clF (notF y) [notF a, notF b]] ++ [clF y [b, c]] ++ [clF (notF y) [notF b, notF c]] ++ [clF y [c, a]] ++ [clF (notF y) [notF c, notF a]])

theorem MS.next {cs : List (List Int)} {y a b c : Int} {k : Nat} {p q r : Int} {cl : List (List Int)} (h : MS cs y a b c k p q r cl) (hk : k < 3) : MS cs y a b c (k + 1) q r p (cl ++ [clF y [p, q]] ++ [clF (notF y) [notF p, notF q]]) := by
  rcases h with ⟨rfl, rfl, rfl, rfl, rfl⟩ | ⟨rfl, rfl, rfl, rfl, rfl⟩ | ⟨rfl, rfl, rfl, rfl, rfl⟩ | ⟨rfl, _⟩
  · exact .inr (.inl ⟨rfl, rfl, rfl, rfl, rfl⟩)
  · exact .inr (.inr (.inl ⟨rfl, rfl, rfl, rfl, rfl⟩))
  · exact .inr (.inr (.inr ⟨rfl, rfl, rfl, rfl, rfl⟩))
  · omega

theorem MS.len {cs : List (List Int)} {y a b c : Int} {k : Nat} {p q r : Int} {cl : List (List Int)} (h : MS cs y a b c k p q r cl) : cl.length ≤ cs.length + 6 := by
  rcases h with ⟨_, _, _, _, rfl⟩ | ⟨_, _, _, _, rfl⟩ | ⟨_, _, _, _, rfl⟩ | ⟨_, _, _, _, rfl⟩ <;> simp

theorem MS.end {cs : List (List Int)} {y a b c : Int} {p q r : Int} {cl : List (List Int)} (h : MS cs y a b c 3 p q r cl) : cl = cs ++ [clF y [a, b]] ++ [clF (notF y) [notF a, notF b]] ++ [clF y [b, c]] ++ [clF (notF y) [notF b, notF c]] ++ [clF y [c, a]] ++ [clF (notF y) [notF c, notF a]] := by
  rcases h with ⟨h, _⟩ | ⟨h, _⟩ | ⟨h, _⟩ | ⟨_, _, _, _, h⟩
  · omega
  · omega
  · omega
  · exact h

theorem MS.fit {cs : List (List Int)} {y a b c : Int} {k n : Nat} {p q r : Int} {cl : List (List Int)} (h : MS cs y a b c k p q r cl) (ha : rng n a) (hb : rng n b) (hc : rng n c) : rng n p ∧ rng n q ∧ rng n r := by
  rcases h with ⟨_, rfl, rfl, rfl, _⟩ | ⟨_, rfl, rfl, rfl, _⟩ | ⟨_, rfl, rfl, rfl, _⟩ | ⟨_, rfl, rfl, rfl, _⟩ <;> exact ⟨by assumption, by assumption, by assumption⟩

set_option maxHeartbeats 8000000 in
theorem maj_any {B : BT} {gb n : Nat} {cs : List (List Int)} {val : Nat → Bool} {is : List Int} (w : World) (g : Good n cs val is) (h : Gt B gb w n cs) (hn : n ≤ 10000) (c a b : Int) (hc : rng n c) (ha : rng n a) (hb : rng n b) :
    Calls Try.prog 60 #[.pointer (some ⟨gb, 0, none⟩), .int .i64 c, .int .i64 a, .int .i64 b] w fun e w' => ∃ y, e = .returned (.int .i64 y) ∧ Hid (GEnd B gb n cs val is (majB (hd val c) (hd val a) (hd val b)) w w' y) := by
  have HG := hid g
  have G := hid h
  have HP := hid h.vq
  have HH := hid (have_yes (n := n) (xs := [c, a, b]) (by simp [ha, hb, hc]))
  have rc := hid hc
  have ra := hid ha
  have rb := hid hb
  have fc := hid (rng_fit hc hn)
  have fa := hid (rng_fit ha hn)
  have fb := hid (rng_fit hb hn)
  obtain ⟨R, hR⟩ : ∃ R, R = majB (hd val c) (hd val a) (hd val b) := ⟨_, rfl⟩
  have HR := hid hR.symm
  have HL : Hid (cs.length ≤ 60000) := hid (by have := g.len; omega)
  rw [← hR]
  clear h g hc ha hb hR
  go_enter Try.func60, Try.ntmps60
  go_wp2_with (go_at_call 57; with_reducible (refine (have_three _ _ n HP.out hn c a b fc.out fa.out fb.out).mono ?_); rintro e w1 ⟨rfl, hb1⟩; rw [HH.out]; have hB := hid hb1.out)
  go_loopw [1, 2, 3, 18] (fun u v x i wr => ∃ k : Nat, k ≤ 3 ∧ i = .int .i64 k ∧ ∃ p q r : Int, u = .int .i64 p ∧ v = .int .i64 q ∧ x = .int .i64 r ∧ Hid (rng n p) ∧ Hid (rng n q) ∧ Hid (rng n r) ∧ Hid (majB (hd val p) (hd val q) (hd val r) = R) ∧ Hid (Below w.heap.size w wr)) (fun _ _ _ i _ => 3 - (intOf i).toNat)
  case atStart => exact ⟨0, by omega, rfl, c, a, b, rfl, rfl, rfl, rc, ra, rb, HR, hB⟩
  case round =>
    clear hB HR rc ra rb fc fa fb
    obtain ⟨k, hk, rfl, p, q, r, rfl, rfl, rfl, rp, rq, rr, hm, hB⟩ := hrel
    have fp := hid (rng_fit rp.out hn)
    have fq := hid (rng_fit rq.out hn)
    have fr := hid (rng_fit rr.out hn)
    by_cases hlt : k < 3
    · have hlt' : (k : Int) < 3 := by omega
      obtain ⟨z, hz⟩ : ∃ z, z = notF q := ⟨_, rfl⟩
      have HZ := hid hz
      by_cases h1 : p = q
      · have q1 : (p == q) = true := by simpa using h1
        have HV : Hid (hd val p = R) := hid (by rw [← hm.out, h1]; cases hd val q <;> cases hd val r <;> rfl)
        clear h1 hz
        go_wp2
        go_ret
        exact ⟨_, rfl, hid (GEnd.same HG.out G.out hB.out rp.out HV.out)⟩
      have q1 : (p == q) = false := by simpa using h1
      by_cases h2 : p = z
      · have q2 : (p == z) = true := by simpa using h2
        have HV : Hid (hd val r = R) := hid (by rw [← hm.out, h2, hz, hd_not _ rq.out.1]; cases hd val q <;> cases hd val r <;> rfl)
        clear h1 h2 hz
        go_wp2_with (go_at_call 37; with_reducible (refine (not_any _ _ fq.out.2).mono ?_); rintro e w2 ⟨rfl, hb2⟩; rw [← HZ.out]; have hB := hid (Below.next hB.out hb2))
        go_ret
        exact ⟨_, rfl, hid (GEnd.same HG.out G.out hB.out rr.out HV.out)⟩
      have q2 : (p == z) = false := by simpa using h2
      by_cases h3 : p = 0
      · have q3 : (p == 0) = true := by simpa using h3
        have HV : Hid ((hd val q || hd val r) = R) := hid (by rw [← hm.out, h3, hd_zero HG.out]; cases hd val q <;> cases hd val r <;> rfl)
        clear h1 h2 h3 hz
        go_wp2_with (first
          | (go_at_call 37; with_reducible (refine (not_any _ _ fq.out.2).mono ?_); rintro e w2 ⟨rfl, hb2⟩; rw [← HZ.out]; have hB := hid (Below.next hB.out hb2))
          | (go_at_call 49; with_reducible (refine (or_any _ HG.out (G.out.below hB.out) hn _ _ rq.out rr.out).mono ?_); rintro e w3 ⟨y, rfl, hend⟩; have hend := hid (hend.out.ahead hB.out)))
        go_ret
        exact ⟨_, rfl, hid (by rw [← HV.out]; exact hend.out)⟩
      have q3 : (p == 0) = false := by simpa using h3
      by_cases h4 : p = 1
      · have q4 : (p == 1) = true := by simpa using h4
        have HV : Hid ((hd val q && hd val r) = R) := hid (by rw [← hm.out, h4, hd_one HG.out]; cases hd val q <;> cases hd val r <;> rfl)
        clear h1 h2 h3 h4 hz
        go_wp2_with (first
          | (go_at_call 37; with_reducible (refine (not_any _ _ fq.out.2).mono ?_); rintro e w2 ⟨rfl, hb2⟩; rw [← HZ.out]; have hB := hid (Below.next hB.out hb2))
          | (go_at_call 59; with_reducible (refine (and_any _ HG.out (G.out.below hB.out) hn _ _ rq.out rr.out).mono ?_); rintro e w3 ⟨y, rfl, hend⟩; have hend := hid (hend.out.ahead hB.out)))
        go_ret
        exact ⟨_, rfl, hid (by rw [← HV.out]; exact hend.out)⟩
      have q4 : (p == 1) = false := by simpa using h4
      clear h1 h2 h3 h4 hz
      go_wp2_with (go_at_call 37; with_reducible (refine (not_any _ _ fq.out.2).mono ?_); rintro e w2 ⟨rfl, hb2⟩; rw [← HZ.out]; have hB := hid (Below.next hB.out hb2))
      go_roundw
      case rel => exact ⟨k + 1, by omega, by go_num, q, r, p, rfl, rfl, rfl, rq, rr, rp, hid (by rw [majB_rot]; exact hm.out), hB⟩
      case measure => simp only [intOf]; omega
    · have hlt' : ¬ (k : Int) < 3 := by omega
      go_wp2_with (go_at_call 15; with_reducible (refine (output_any _ (G.out.below hB.out) hn).mono ?_); rintro e w3 ⟨cb, y, rfl, hy, y0, y1, G, X, F⟩; have F := hid ((FG.below hB.out).trans F.out); have fy : Hid (-9223372036854775808 ≤ y ∧ y ≤ 9223372036854775807) := hid ⟨by omega, y1⟩; have fny := hid (fit_not fy.out.1 fy.out.2))
      go_loopw [1, 2, 3, 54] (fun u v x i wr => ∃ k : Nat, k ≤ 3 ∧ i = .int .i64 k ∧ ∃ p' q' r' : Int, ∃ cl, u = .int .i64 p' ∧ v = .int .i64 q' ∧ x = .int .i64 r' ∧ Hid (MS cs y p q r k p' q' r' cl) ∧ Hid (Gt B gb wr (n + 1) cl) ∧ Hid (Bx wr cb gb) ∧ Hid (FG B w wr)) (fun _ _ _ i _ => 3 - (intOf i).toNat)
      case atStart => exact ⟨0, by omega, rfl, p, q, r, cs, rfl, rfl, rfl, hid (.inl ⟨rfl, rfl, rfl, rfl, rfl⟩), G, X, F⟩
      case round =>
        clear G X F hlt hlt' hk
        obtain ⟨k, hk, rfl, p2, q2, r2, cl, rfl, rfl, rfl, ms, G, X, F⟩ := hrel
        by_cases hlt : k < 3
        · have hlt' : (k : Int) < 3 := by omega
          obtain ⟨m1, m2, m3⟩ := ms.out.fit rp.out rq.out rr.out
          have fp2 := hid (rng_fit m1 hn)
          have fq2 := hid (rng_fit m2 hn)
          have fnp2 := hid (rng_fit (rng_not m1) hn)
          have fnq2 := hid (rng_fit (rng_not m2) hn)
          have HC : Hid (cl.length ≤ 70000) := hid (by have := ms.out.len; have := HL.out; omega)
          clear m1 m2 m3
          go_wp2_with (first
            | (go_at_call 37; with_reducible (refine (not_any _ _ (by first | exact fp2.out.2 | exact fq2.out.2 | exact fy.out.2)).mono ?_); rintro e w2 ⟨rfl, hb2⟩; have G := hid (G.out.below hb2); have X := hid (X.out.below hb2); have F := hid (F.out.trans (FG.below hb2)))
            | (go_at_call 36; with_reducible (refine (add_two _ G.out X.out (by have := HC.out; first | omega | (simp only [len_one]; omega)) _ _ _ (by first | exact fy.out | exact fny.out) (by first | exact fp2.out | exact fnp2.out) (by first | exact fq2.out | exact fnq2.out)).mono ?_); rintro e w4 ⟨rfl, G, X, F2⟩; have F := hid (F.out.trans F2.out); clear F2))
          go_roundw
          case rel => exact ⟨k + 1, by omega, by go_num, q2, r2, p2, _, rfl, rfl, rfl, hid (ms.out.next hlt), G, X, F⟩
          case measure => simp only [intOf]; omega
        · have hk3 : k = 3 := by omega
          subst hk3
          have hce := hid ms.out.end
          go_wp2
          go_ret
          refine ⟨_, rfl, hid ⟨n + 1, _, _, HG.out.maj rp.out rq.out rr.out, ?_, by rw [hy.out]; exact y_rng n, by rw [hy.out, hd_new]; exact hm.out, F.out⟩⟩
          rw [← maj_list n cs y p q r hy.out, ← hce.out]
          exact G.out

end Go.Proofs.Ytplhlfmibeennaa
