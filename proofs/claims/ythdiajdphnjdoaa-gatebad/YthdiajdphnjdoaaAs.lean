/-
  What the statements ask of gates: ask, lit, says.
-/
import Derived.Test.YthdiajdphnjdoaaGe
import Derived.Test.YthdiajdphnjdoaaRl
namespace Go.Proofs.Ythdiajdphnjdoaa
open Go.RowKit
set_option linter.unusedVariables false

def sF (k : Int) (p q r : Bool) : Bool := if k = 1 then p && q else if k = 2 then p || q else if k = 3 then p != q else if k = 4 then iteB p q r else majB p q r

theorem says_any (k : Int) (p q r : Bool) (w : World) : Calls Try.prog 32 #[.int .i64 k, .bool p, .bool q, .bool r] w fun e w' => e = .returned (.bool (sF k p q r)) ∧ w' = w := by
  by_cases h1 : k = 1
  · subst h1
    have HV : Hid (sF 1 p q r = (p && q)) := hid (by simp [sF])
    cases p <;> cases q
    all_goals go_enter Try.func32, Try.ntmps32
    all_goals go_wp2
    all_goals go_ret
    all_goals exact ⟨by rw [HV.out]; rfl, rfl⟩
  by_cases h2 : k = 2
  · subst h2
    have HV : Hid (sF 2 p q r = (p || q)) := hid (by simp [sF])
    cases p <;> cases q
    all_goals go_enter Try.func32, Try.ntmps32
    all_goals go_wp2
    all_goals go_ret
    all_goals exact ⟨by rw [HV.out]; rfl, rfl⟩
  by_cases h3 : k = 3
  · subst h3
    have HV : Hid (sF 3 p q r = (p != q)) := hid (by simp [sF])
    cases p <;> cases q
    all_goals go_enter Try.func32, Try.ntmps32
    all_goals go_wp2
    all_goals go_ret
    all_goals exact ⟨by rw [HV.out]; rfl, rfl⟩
  by_cases h4 : k = 4
  · subst h4
    have HV : Hid (sF 4 p q r = iteB p q r) := hid (by simp [sF])
    cases p <;> cases q <;> cases r
    all_goals go_enter Try.func32, Try.ntmps32
    all_goals go_wp2
    all_goals go_ret
    all_goals exact ⟨by rw [HV.out]; rfl, rfl⟩
  · have HV : Hid (sF k p q r = majB p q r) := hid (by simp [sF, h1, h2, h3, h4])
    have q1 : (k == 1) = false := by simpa using h1
    have q2 : (k == 2) = false := by simpa using h2
    have q3 : (k == 3) = false := by simpa using h3
    have q4 : (k == 4) = false := by simpa using h4
    clear h1 h2 h3 h4
    cases p <;> cases q <;> cases r
    all_goals go_enter Try.func32, Try.ntmps32
    all_goals go_wp2
    all_goals go_ret
    all_goals exact ⟨by rw [HV.out]; rfl, rfl⟩

/-- Whether a literal that may be none holds. -/
def hv (val : Nat → Bool) (x : Int) : Bool := decide (0 ≤ x) && hd val x
theorem hv_rng {n : Nat} {val : Nat → Bool} {x : Int} (h : rng n x) : hv val x = hd val x := by
  have := h.1; simp [hv, this]
theorem hv_neg {val : Nat → Bool} {x : Int} (h : x < 0) : hv val x = false := by
  simp [hv]; intro h2; omega

theorem ask_any {B : BT} {gb n : Nat} {cs : List (List Int)} {val : Nat → Bool} {is : List Int} (w : World) (g : Good n cs val is) (h : Gt B gb w n cs) (hn : n ≤ 10000) (k a b c : Int) (k0 : 1 ≤ k) (k1 : k ≤ 5) (ha : rng n a) (hb : rng n b) (hc : 3 < k → rng n c) :
    Calls Try.prog 11 #[.pointer (some ⟨gb, 0, none⟩), .int .i64 k, .int .i64 a, .int .i64 b, .int .i64 c] w fun e w' => ∃ y, e = .returned (.int .i64 y) ∧ Hid (GEnd B gb n cs val is (sF k (hd val a) (hd val b) (hv val c)) w w' y) := by
  have HG := hid g
  have G := hid h
  have RA := hid ha
  have RB := hid hb
  have RC := hid hc
  clear g h ha hb hc
  by_cases h1 : k = 1
  · subst h1
    have HV : Hid (sF 1 (hd val a) (hd val b) (hv val c) = (hd val a && hd val b)) := hid (by simp [sF])
    go_enter Try.func11, Try.ntmps11
    go_wp2_with (go_at_call 17; with_reducible (refine (and_any _ HG.out G.out hn _ _ RA.out RB.out).mono ?_); rintro e w3 ⟨y, rfl, hend⟩)
    go_ret
    exact ⟨_, rfl, hid (by rw [HV.out]; exact hend.out)⟩
  by_cases h2 : k = 2
  · subst h2
    have HV : Hid (sF 2 (hd val a) (hd val b) (hv val c) = (hd val a || hd val b)) := hid (by simp [sF])
    go_enter Try.func11, Try.ntmps11
    go_wp2_with (go_at_call 18; with_reducible (refine (or_any _ HG.out G.out hn _ _ RA.out RB.out).mono ?_); rintro e w3 ⟨y, rfl, hend⟩)
    go_ret
    exact ⟨_, rfl, hid (by rw [HV.out]; exact hend.out)⟩
  by_cases h3 : k = 3
  · subst h3
    have HV : Hid (sF 3 (hd val a) (hd val b) (hv val c) = (hd val a != hd val b)) := hid (by simp [sF])
    go_enter Try.func11, Try.ntmps11
    go_wp2_with (go_at_call 14; with_reducible (refine (xor_any _ HG.out G.out hn _ _ RA.out RB.out).mono ?_); rintro e w3 ⟨y, rfl, hend⟩)
    go_ret
    exact ⟨_, rfl, hid (by rw [HV.out]; exact hend.out)⟩
  by_cases h4 : k = 4
  · subst h4
    have RC2 := hid (RC.out (by omega))
    have HV : Hid (sF 4 (hd val a) (hd val b) (hv val c) = iteB (hd val a) (hd val b) (hd val c)) := hid (by rw [hv_rng RC2.out]; simp [sF])
    go_enter Try.func11, Try.ntmps11
    go_wp2_with (go_at_call 19; with_reducible (refine (ite_any _ HG.out G.out hn _ _ _ RA.out RB.out RC2.out).mono ?_); rintro e w3 ⟨y, rfl, hend⟩)
    go_ret
    exact ⟨_, rfl, hid (by rw [HV.out]; exact hend.out)⟩
  · have h5 : k = 5 := by omega
    subst h5
    have RC2 := hid (RC.out (by omega))
    have HV : Hid (sF 5 (hd val a) (hd val b) (hv val c) = majB (hd val a) (hd val b) (hd val c)) := hid (by rw [hv_rng RC2.out]; simp [sF])
    go_enter Try.func11, Try.ntmps11
    go_wp2_with (go_at_call 20; with_reducible (refine (maj_any _ HG.out G.out hn _ _ _ RA.out RB.out RC2.out).mono ?_); rintro e w3 ⟨y, rfl, hend⟩)
    go_ret
    exact ⟨_, rfl, hid (by rw [HV.out]; exact hend.out)⟩

theorem nrng_not {n : Nat} {x : Int} (h : ¬ rng n x) : ¬ rng n (notF x) := by
  unfold rng notF at *
  split
  · omega
  · split <;> omega

theorem ask_bad (w : World) (p : Value) (n : Nat) (hp : Vq w p n) (hn : n ≤ 10000) (k a b c : Int) (fa : -9223372036854775808 ≤ a ∧ a ≤ 9223372036854775807) (fb : -9223372036854775808 ≤ b ∧ b ≤ 9223372036854775807) (fc : -9223372036854775808 ≤ c ∧ c ≤ 9223372036854775807) (hb : ¬ rng n a) :
    Calls Try.prog 11 #[p, .int .i64 k, .int .i64 a, .int .i64 b, .int .i64 c] w fun e w' => e = .returned (.int .i64 (-1)) ∧ Hid (Below w.heap.size w w') := by
  have HP := hid hp
  have H1 := hid (have_no (n := n) (xs := [a, b]) (x := a) (by simp) hb)
  have H2 := hid (have_no (n := n) (xs := [notF a, notF b]) (x := notF a) (by simp) (nrng_not hb))
  have H3 := hid (have_no (n := n) (xs := [a, notF b, b]) (x := a) (by simp) hb)
  have H4 := hid (have_no (n := n) (xs := [a, b, c]) (x := a) (by simp) hb)
  have FA := hid fa
  have FB := hid fb
  have FC := hid fc
  clear hp fa fb fc hb
  by_cases h1 : k = 1
  · subst h1
    go_enter Try.func11, Try.ntmps11
    go_wp2_with (go_at_call 17; with_reducible (refine (and_bad _ _ n HP.out hn _ _ FA.out FB.out H1.out).mono ?_); rintro e w3 ⟨rfl, hb1⟩)
    go_ret
    exact ⟨rfl, hb1⟩
  by_cases h2 : k = 2
  · subst h2
    go_enter Try.func11, Try.ntmps11
    go_wp2_with (go_at_call 18; with_reducible (refine (or_bad _ _ n HP.out hn _ _ FA.out FB.out H2.out).mono ?_); rintro e w3 ⟨rfl, hb1⟩)
    go_ret
    exact ⟨rfl, hb1⟩
  by_cases h3 : k = 3
  · subst h3
    go_enter Try.func11, Try.ntmps11
    go_wp2_with (go_at_call 14; with_reducible (refine (xor_bad _ _ n HP.out hn _ _ FA.out FB.out H3.out).mono ?_); rintro e w3 ⟨rfl, hb1⟩)
    go_ret
    exact ⟨rfl, hb1⟩
  by_cases h4 : k = 4
  · subst h4
    go_enter Try.func11, Try.ntmps11
    go_wp2_with (go_at_call 19; with_reducible (refine (ite_bad _ _ n HP.out hn _ _ _ FA.out FB.out FC.out H4.out).mono ?_); rintro e w3 ⟨rfl, hb1⟩)
    go_ret
    exact ⟨rfl, hb1⟩
  · have q1 : (k == 1) = false := by simpa using h1
    have q2 : (k == 2) = false := by simpa using h2
    have q3 : (k == 3) = false := by simpa using h3
    have q4 : (k == 4) = false := by simpa using h4
    clear h1 h2 h3 h4
    go_enter Try.func11, Try.ntmps11
    go_wp2_with (go_at_call 20; with_reducible (refine (maj_bad _ _ n HP.out hn _ _ _ FA.out FB.out FC.out H4.out).mono ?_); rintro e w3 ⟨rfl, hb1⟩)
    go_ret
    exact ⟨rfl, hb1⟩

/-! ### one of those that were told -/
def litF (xs : List Int) (n : Int) : Int :=
  if xs.length = 0 ∨ n < 0 then n else if n % 2 = 1 then notF (xs.getD ((n / 2) % xs.length).toNat 0) else xs.getD ((n / 2) % xs.length).toNat 0

theorem litF_at {xs : List Int} {n : Int} {N : Nat} (h : ∀ x ∈ xs, rng N x) : rng N (litF xs n) ∨ (litF xs n = n ∧ (xs.length = 0 ∨ n < 0)) := by
  unfold litF
  split
  · rename_i e; exact .inr ⟨rfl, e⟩
  · rename_i e
    have hl : ((n / 2) % xs.length).toNat < xs.length := by
      have h1 := Int.emod_nonneg (n / 2) (b := (xs.length : Int)) (by omega)
      have h2 := Int.emod_lt_of_pos (n / 2) (b := (xs.length : Int)) (by omega)
      omega
    have hm : rng N (xs.getD ((n / 2) % xs.length).toNat 0) := by
      apply h
      rw [List.getD_eq_getElem?_getD, List.getElem?_eq_getElem hl]
      exact List.getElem_mem _
    split
    · exact .inl (rng_not hm)
    · exact .inl hm

set_option maxHeartbeats 1000000 in
theorem lit_any (w : World) (ao : Option Addr) (m cap : Nat) (xs : List Int) (hr : Row w ao m cap xs) (n : Int) (h0 : -9223372036854775808 ≤ n) (h1 : n ≤ 9223372036854775807) :
    Calls Try.prog 8 #[.slice ao m cap, .int .i64 n] w fun e w' => e = .returned (.int .i64 (litF xs n)) ∧ w' = w := by
  have hl := hr.1
  have hm := hr.max
  by_cases hz : m = 0
  · have HV : Hid (litF xs n = n) := hid (by unfold litF; rw [if_pos (.inl (by omega))])
    subst hz
    clear hr hl
    go_enter Try.func8, Try.ntmps8
    go_wp2
    go_ret
    exact ⟨by rw [HV.out]; rfl, rfl⟩
  by_cases hn : n < 0
  · have HV : Hid (litF xs n = n) := hid (by unfold litF; rw [if_pos (.inr hn)])
    have hz' : ((m : Int) == 0) = false := by simpa using hz
    clear hr hl
    go_enter Try.func8, Try.ntmps8
    go_wp2
    go_ret
    exact ⟨by rw [HV.out]; rfl, rfl⟩
  have hz' : ((m : Int) == 0) = false := by simpa using hz
  have e1 := Int.emod_nonneg (n / 2) (b := (m : Int)) (by omega)
  have e2 := Int.emod_lt_of_pos (n / 2) (b := (m : Int)) (by omega)
  obtain ⟨k, hk⟩ : ∃ k : Nat, (n / 2) % (m : Int) = k := ⟨((n / 2) % (m : Int)).toNat, by omega⟩
  have hkm : k < m := by omega
  obtain ⟨y, hy⟩ : ∃ y, xs[k]? = some y := ⟨xs[k]'(by omega), by simp⟩
  obtain ⟨b, off, rfl, hc, _⟩ := hr.two hkm hkm hy hy
  have hyf := hr.2.2.2.2.1 y (List.mem_of_getElem? hy)
  have y1 := hyf.2
  have hgd : xs.getD ((n / 2) % xs.length).toNat 0 = y := by
    rw [hl, hk]; simp [hy]
  have hkm' : (k : Int) < m := by omega
  have k0 : (0 : Int) ≤ k := by omega
  by_cases h2 : n % 2 = 1
  · have HV : Hid (litF xs n = notF y) := hid (by unfold litF; rw [if_neg (by omega), if_pos h2, hgd])
    have q2 : (n % 2 == 1) = true := by simpa using h2
    clear hr hl hy hyf hgd e1 e2 h2
    go_enter Try.func8, Try.ntmps8
    go_wp2_with (go_at_call 12; with_reducible (refine (rnot_any _ _ y1).mono ?_); rintro e w1 ⟨rfl, rfl⟩)
    go_ret
    exact ⟨by rw [HV.out]; rfl, rfl⟩
  · have HV : Hid (litF xs n = y) := hid (by unfold litF; rw [if_neg (by omega), if_neg h2, hgd])
    have q2 : (n % 2 == 1) = false := by simpa using h2
    clear hr hl hy hyf hgd e1 e2 h2
    go_enter Try.func8, Try.ntmps8
    go_wp2
    go_ret
    exact ⟨by rw [HV.out]; rfl, rfl⟩

end Go.Proofs.Ythdiajdphnjdoaa
