/-
  The sides of a clause, as bits.
-/
import Derived.Test.YtogjafmpoepgbaaCheck
import Derived.Laws.BitsAll
import Derived.Laws.BitsAllLaws
namespace Go.Proofs.Ytogjafmpoepgbaa
open Go.RowKit
set_option linter.unusedVariables false

/-! ### Bits of numbers from 0 on -/
theorem ofInt_i64 (a : Nat) (ha : a < 9223372036854775808) : (BitVec.ofInt 64 (a : Int)).toNat = a := ofInt_u64 a (by omega)
theorem i64_or_nat (a b : Nat) (ha : a < 65536) (hb : b < 65536) : bits .or .i64 (a : Int) (b : Int) = ((a ||| b : Nat) : Int) := by
  have hx : a ||| b < 2 ^ 16 := Nat.or_lt_two_pow (by omega) (by omega)
  show IntKind.i64.wrap ((BitVec.ofInt 64 (a : Int) ||| BitVec.ofInt 64 (b : Int)).toNat : Int) = _
  rw [BitVec.toNat_or, ofInt_i64 a (by omega), ofInt_i64 b (by omega)]
  exact IntWalk.i64_in _ (by omega)
theorem i64_and_nat (a b : Nat) (ha : a < 65536) (hb : b < 65536) : bits .and .i64 (a : Int) (b : Int) = ((a &&& b : Nat) : Int) := by
  have hx : a &&& b < 2 ^ 16 := Nat.and_lt_two_pow _ (by omega)
  show IntKind.i64.wrap ((BitVec.ofInt 64 (a : Int) &&& BitVec.ofInt 64 (b : Int)).toNat : Int) = _
  rw [BitVec.toNat_and, ofInt_i64 a (by omega), ofInt_i64 b (by omega)]
  exact IntWalk.i64_in _ (by omega)
theorem i64_andNot_nat (a b : Nat) (ha : a < 65536) (hb : b < 65536) : bits .andNot .i64 (a : Int) (b : Int) = ((freeB a b : Nat) : Int) := by
  have hx : freeB a b ≤ a := free_le a b
  show IntKind.i64.wrap ((BitVec.ofInt 64 (a : Int) &&& ~~~BitVec.ofInt 64 (b : Int)).toNat : Int) = _
  rw [BitVec.toNat_and, BitVec.toNat_not, ofInt_i64 a (by omega), ofInt_i64 b (by omega)]
  have e : 2 ^ 64 - 1 - b = 18446744073709551615 - b := by omega
  rw [e]
  exact IntWalk.i64_in _ (by unfold freeB at hx; omega)

/-! ### A block of two numbers -/
def Blk (w : World) (b : Nat) (x y : Int) : Prop := w.heap[b]? = some (.cells #[.int .i64 x, .int .i64 y] 58 (0, 0))

theorem Blk.lt {w : World} {b : Nat} {x y : Int} (h : Blk w b x y) : b < w.heap.size := (Array.getElem?_eq_some_iff.1 h).1
theorem Blk.c0 {w : World} {b : Nat} {x y : Int} (h : Blk w b x y) : w.cell? ⟨b, 0, none⟩ = some (.int .i64 x) := by unfold Blk at h; simp [World.cell?, h]
theorem Blk.c1 {w : World} {b : Nat} {x y : Int} (h : Blk w b x y) : w.cell? ⟨b, 1, none⟩ = some (.int .i64 y) := by unfold Blk at h; simp [World.cell?, h]
theorem Blk.fr {w : World} {b : Nat} {x y : Int} (h : Blk w b x y) (i : Nat) : w.frozen? ⟨b, i, none⟩ = false := by unfold Blk at h; simp [World.frozen?, h]
theorem Blk.keep {w w' : World} {b : Nat} {x y : Int} (h : Blk w b x y) (hb : Below w.heap.size w w') : Blk w' b x y := by
  unfold Blk; rw [hb.block _ h.lt]; exact h
theorem Blk.drew {w : World} {b : Nat} {x y : Int} (h : Blk w b x y) : Blk w.drew b x y := h
theorem Blk.set0 {w : World} {b : Nat} {x y : Int} (h : Blk w b x y) (z : Int) : Blk (w.setCell ⟨b, 0, none⟩ (.int .i64 z)) b z y := by
  unfold Blk at h ⊢; simp [World.setCell, Array.getElem?_modify, h]
theorem Blk.set1 {w : World} {b : Nat} {x y : Int} (h : Blk w b x y) (z : Int) : Blk (w.setCell ⟨b, 1, none⟩ (.int .i64 z)) b x z := by
  unfold Blk at h ⊢; simp [World.setCell, Array.getElem?_modify, h]
theorem Blk.other {w : World} {b : Nat} {x y : Int} (h : Blk w b x y) {a : Addr} (ha : b ≠ a.block) (v : Value) : Blk (w.setCell a v) b x y := by
  unfold Blk; rw [Below.heap_setCell _ _ _ _ ha]; exact h
theorem Blk.made (w : World) (x y : Int) : Blk (w.alloc (.cells #[.int .i64 x, .int .i64 y] 58)) w.heap.size x y := by
  unfold Blk; show (w.heap.push _)[w.heap.size]? = _; simp

theorem var_nat (l : Int) (v : Nat) (w : World) (hu : l ≤ 9223372036854775807) (h : varF l = v) : Calls Try.prog 17 #[.int .i64 l] w fun e w' => e = .returned (.int .i64 (v : Int)) ∧ Below w.heap.size w w' := by
  rw [← h]; exact var_any l w hu

theorem Blk.two (w : World) : Blk ((w.alloc (.cells #[.int .i64 0, .int .i64 0] 58)).alloc (.cells #[.int .i64 0, .int .i64 0] 58)) w.heap.size 0 0 ∧ Blk ((w.alloc (.cells #[.int .i64 0, .int .i64 0] 58)).alloc (.cells #[.int .i64 0, .int .i64 0] 58)) (w.heap.size + 1) 0 0 ∧ Below w.heap.size w ((w.alloc (.cells #[.int .i64 0, .int .i64 0] 58)).alloc (.cells #[.int .i64 0, .int .i64 0] 58)) := by
  refine ⟨(Blk.made w 0 0).keep ((Below.refl _ _).alloc (Nat.le_refl _) _), ?_, ((Below.refl _ _).alloc (Nat.le_refl _) _).alloc (by simp) _⟩
  have := Blk.made (w.alloc (.cells #[.int .i64 0, .int .i64 0] 58)) 0 0
  simpa using this

theorem pow_small {v vars : Nat} (h : v < vars) (hv : vars ≤ 16) : 2 ^ v < 65536 ∧ 2 ^ vars ≤ 65536 :=
  ⟨Nat.lt_of_lt_of_le (Nat.pow_lt_pow_right (by omega) h) (Nat.pow_le_pow_right (n := 2) (by omega) hv), Nat.pow_le_pow_right (n := 2) (by omega) hv⟩

theorem shl_nat {v vars : Nat} (h : v < vars) (hv : vars ≤ 16) : IntKind.i64.wrap ((2 : Int) ^ v) = ((2 ^ v : Nat) : Int) := by
  have := (pow_small h hv).1
  have e : ((2 : Int) ^ v) = ((2 ^ v : Nat) : Int) := by simp
  rw [e]
  obtain ⟨r, hr⟩ : ∃ r, r = 2 ^ v := ⟨_, rfl⟩
  rw [← hr] at this ⊢
  exact IntWalk.i64_in _ (by omega)

/-- One literal more, a negated one. -/
theorem step_neg {vars p q v k : Nat} {xs : List Int} {y : Int} (hv : vars ≤ 16) (hg : badC vars xs = false) (hpq : p = plainB (xs.take k) ∧ q = negB (xs.take k)) (hy : xs[k]? = some y) (hn : negF y = true) (hvy : varF y = (v : Int)) (hvl : v < vars) :
    ∃ r : Nat, bits .or .i64 (q : Int) (IntKind.i64.wrap ((2 : Int) ^ v)) = (r : Int) ∧ Hid (p = plainB (xs.take (k + 1)) ∧ r = negB (xs.take (k + 1))) := by
  have hq : q < 65536 := by rw [hpq.2]; exact Nat.lt_of_lt_of_le (neg_lt (good_take hg k)) (pow_small hvl hv).2
  have hs := (pow_small hvl hv).1
  refine ⟨q ||| 2 ^ v, ?_, ?_, ?_⟩
  · rw [shl_nat hvl hv]; exact i64_or_nat q (2 ^ v) hq hs
  · rw [plain_step0 hy hn]; exact hpq.1
  · rw [neg_step1 hy hn, ← hpq.2, hvy]; rfl

theorem step_plain {vars p q v k : Nat} {xs : List Int} {y : Int} (hv : vars ≤ 16) (hg : badC vars xs = false) (hpq : p = plainB (xs.take k) ∧ q = negB (xs.take k)) (hy : xs[k]? = some y) (hn : negF y = false) (hvy : varF y = (v : Int)) (hvl : v < vars) :
    ∃ r : Nat, bits .or .i64 (p : Int) (IntKind.i64.wrap ((2 : Int) ^ v)) = (r : Int) ∧ Hid (r = plainB (xs.take (k + 1)) ∧ q = negB (xs.take (k + 1))) := by
  have hq : p < 65536 := by rw [hpq.1]; exact Nat.lt_of_lt_of_le (plain_lt (good_take hg k)) (pow_small hvl hv).2
  have hs := (pow_small hvl hv).1
  refine ⟨p ||| 2 ^ v, ?_, ?_, ?_⟩
  · rw [shl_nat hvl hv]; exact i64_or_nat p (2 ^ v) hq hs
  · rw [plain_step1 hy hn, ← hpq.1, hvy]; rfl
  · rw [neg_step0 hy hn]; exact hpq.2

set_option maxHeartbeats 4000000 in
theorem sides_any (vars : Nat) (hv : vars ≤ 16) (ao : Option Addr) (n cap : Nat) (xs : List Int) (w : World) (h : Row w ao n cap xs) (hg : badC vars xs = false) :
    Calls Try.prog 34 #[.slice ao n cap] w fun e w' => e = .returned (.agg #[.int .i64 (plainB xs : Nat), .int .i64 (negB xs : Nat)]) ∧ Below w.heap.size w w' := by
  have HR : Hid (Row w ao n cap xs) := h
  have hm := h.max
  have HG : Hid (badC vars xs = false) := hg
  clear h hg
  go_enter Try.func34, Try.ntmps34
  go_wp2
  go_loopw [8] (fun i wr => ∃ k p q : Nat, k ≤ n ∧ i = .int .i64 k ∧ Hid (p = plainB (xs.take k) ∧ q = negB (xs.take k)) ∧ Hid (Blk wr w.heap.size 0 0) ∧ Hid (Blk wr (w.heap.size + 1) p q) ∧ Below w.heap.size w wr) (fun i _ => n - (intOf i).toNat)
  case atStart =>
    obtain ⟨h1, h2, h3⟩ := Blk.two w
    exact ⟨0, 0, 0, Nat.zero_le _, rfl, ⟨rfl, rfl⟩, h1, h2, h3⟩
  case round =>
    obtain ⟨k, p, q, hk, rfl, hpq, hB0, hB1, hb⟩ := hrel
    by_cases hlt : k < n
    · obtain ⟨b, off, y, rfl, hc, hy, _, hu⟩ := (HR.out.keep hb).at hlt
      have hgy := good_lit HG.out (List.mem_of_getElem? hy.out)
      obtain ⟨v, hvy⟩ := Int.eq_ofNat_of_zero_le hgy.2.2.1
      have hvl : v < vars := by omega
      clear hgy
      cases hs : negF y
      · obtain ⟨r, hor, HPQ⟩ := step_plain hv HG.out hpq.out hy.out hs hvy hvl
        go_wp2_with (go_at_call 42; with_reducible (refine (neg_any _ _ hu).mono ?_); rintro e w1 ⟨rfl, hb1⟩)
        have HK : Hid (Blk w1.drew (w.heap.size + 1) p q) := (hB1.out.keep hb1).drew
        have k1 : w1.drew.cell? ⟨w.heap.size + 1, 0, none⟩ = some (.int .i64 p) := HK.out.c0
        go_region_with (go_at_call 17; refine (var_nat _ v _ hu hvy).mono ?_; rintro e w2 ⟨rfl, hb2⟩; have HK2 : Hid (Blk w2 (w.heap.size + 1) p q) := HK.out.keep hb2; have k2 : w2.cell? ⟨w.heap.size + 1, 0, none⟩ = some (.int .i64 p) := HK2.out.c0; have k3 := HK2.out.fr 0)
        all_goals go_wp2
        all_goals go_roundw
        all_goals first
          | exact ⟨k + 1, r, q, by omega, by go_num, HPQ, (((hB0.out.keep hb1).drew).keep hb2).other (by simp) _, HK2.out.set0 _, (Below.next (Below.next hb hb1).drew hb2).setCell (by simp) _⟩
          | (simp [intOf]; omega)
      · obtain ⟨r, hor, HPQ⟩ := step_neg hv HG.out hpq.out hy.out hs hvy hvl
        go_wp2_with (go_at_call 42; with_reducible (refine (neg_any _ _ hu).mono ?_); rintro e w1 ⟨rfl, hb1⟩)
        have HK : Hid (Blk w1.drew (w.heap.size + 1) p q) := (hB1.out.keep hb1).drew
        have k1 : w1.drew.cell? ⟨w.heap.size + 1, 1, none⟩ = some (.int .i64 q) := HK.out.c1
        go_region_with (go_at_call 17; refine (var_nat _ v _ hu hvy).mono ?_; rintro e w2 ⟨rfl, hb2⟩; have HK2 : Hid (Blk w2 (w.heap.size + 1) p q) := HK.out.keep hb2; have k2 : w2.cell? ⟨w.heap.size + 1, 1, none⟩ = some (.int .i64 q) := HK2.out.c1; have k3 := HK2.out.fr 1)
        all_goals go_wp2
        all_goals go_roundw
        all_goals first
          | exact ⟨k + 1, p, r, by omega, by go_num, HPQ, (((hB0.out.keep hb1).drew).keep hb2).other (by simp) _, HK2.out.set1 _, (Below.next (Below.next hb hb1).drew hb2).setCell (by simp) _⟩
          | (simp [intOf]; omega)
    · have HX : Hid (p = plainB xs ∧ q = negB xs) := by
        have e : xs.take k = xs := List.take_of_length_le (by rw [HR.out.1]; omega)
        have := hpq.out
        rw [e] at this
        exact this
      have k0 := hB1.out.c0
      have k1 := hB1.out.c1
      have j0 := hB0.out.c0
      have j1 := hB0.out.c1
      have f0 := hB0.out.fr 0
      have f1 := hB0.out.fr 1
      have g0 := (hB0.out.set0 p).c0
      have g1 := ((hB0.out.set0 p).set1 q).c1
      go_wp2
      refine bodyPost_ret (v := .agg #[.int .i64 p, .int .i64 q]) (by simp [results, Try.results34, go_sem, g0, g1]) rfl ?_
      exact ⟨by rw [← HX.out.1, ← HX.out.2], (hb.setCell (by simp) _).setCell (by simp) _⟩

/-- Does the clause hold in all lists? -/
theorem always_any (p q : Nat) (hp : p < 65536) (hq : q < 65536) (w : World) :
    Calls Try.prog 35 #[.agg #[.int .i64 (p : Int), .int .i64 (q : Int)]] w fun e w' => e = .returned (.bool (decide (p &&& q ≠ 0))) ∧ Below w.heap.size w w' := by
  have hand := i64_and_nat p q hp hq
  obtain ⟨r, hr⟩ : ∃ r, r = p &&& q := ⟨_, rfl⟩
  rw [← hr] at hand ⊢
  clear hr
  by_cases h : r = 0
  · subst h
    go_enter Try.func35, Try.ntmps35
    go_wp2
    go_ret
    exact ⟨rfl, by go_grown⟩
  · have h' : ((r : Int) != 0) = true := by simpa using h
    have HV : Hid (decide (r ≠ 0) = true) := by show _ = _; simpa using h
    go_enter Try.func35, Try.ntmps35
    go_wp2
    go_ret
    exact ⟨by rw [HV.out]; rfl, by go_grown⟩

end Go.Proofs.Ytogjafmpoepgbaa
