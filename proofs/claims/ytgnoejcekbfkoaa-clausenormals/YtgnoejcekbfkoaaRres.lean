/-
  Resolve, of the document; Within, of the program.
-/
import Derived.Test.YtgnoejcekbfkoaaResolve
namespace Go.Proofs.Ytgnoejcekbfkoaa
open Go.RowKit
set_option linter.unusedVariables false

theorem resolve_any (ao bo : Option Addr) (n m cap cbp : Nat) (a b : List Int) (v : Int) (w : World) (h : Row w ao n cap a) (g : Row w bo m cbp b) (hn : n ≤ 400) (hm : m ≤ 400) :
    Calls Try.prog 18 #[.slice ao n cap, .slice bo m cbp, .int .i64 v] w fun e w' => ∃ co k c, e = .returned (.tuple #[.slice co k c, .int .i64 (resE a b v)]) ∧ Hid (Row w' co k c (resF a b v)) ∧ Below w.heap.size w w' := by
  by_cases hx : badL a = true ∨ badL b = true
  · have e : resF a b v = [] ∧ resE a b v = 10 := by
      rcases hx with hx | hx
      · simp [resF, resE, hx]
      · cases ha : badL a <;> simp [resF, resE, ha, hx]
    refine (resolve_bad ao bo n m cap cbp a b v w h g hn hm hx).mono ?_
    rintro e' w' ⟨rfl, hb⟩
    rw [e.1, e.2]
    exact ⟨_, _, _, rfl, row_nil _, hb⟩
  · have ha : badL a = false := by cases e : badL a; rfl; exact absurd (.inl e) hx
    have hb : badL b = false := by cases e : badL b; rfl; exact absurd (.inr e) hx
    by_cases hy : (rise a).any (fun x => plcF x v false) = false ∨ (rise b).any (fun x => plcF x v true) = false
    · obtain ⟨e1, e2⟩ := res_none ha hb hy
      refine (resolve_none ao bo n m cap cbp a b v w h g hn hm ha hb hy).mono ?_
      rintro e' w' ⟨rfl, hb⟩
      rw [e1, e2]
      exact ⟨_, _, _, rfl, row_nil _, hb⟩
    · have hp : (rise a).any (fun x => plcF x v false) = true := by cases e : (rise a).any (fun x => plcF x v false); exact absurd (.inl e) hy; rfl
      have hq : (rise b).any (fun x => plcF x v true) = true := by cases e : (rise b).any (fun x => plcF x v true); exact absurd (.inr e) hy; rfl
      have e2 : resE a b v = 0 := by
        rw [plc_any ha] at hp; rw [plc_any hb] at hq
        have : meetF a b v = true := by
          rw [Bool.and_eq_true] at hp hq
          rw [meetF, hp.1]
          simp only [litF] at hp hq
          simp at hp hq
          simp [hp.2, hq.2]
        simp [resE, ha, hb, this]
      refine (resolve_some ao bo n m cap cbp a b v w h g hn hm ha hb hp hq).mono ?_
      rintro e' w' ⟨co, k, c, rfl, hr, hb⟩
      rw [e2]
      exact ⟨_, _, _, rfl, hr, hb⟩

theorem rnormal_bad (ao : Option Addr) (n cap : Nat) (xs : List Int) (w : World) (h : Row w ao n cap xs) (hn : n ≤ 1000) (hx : badL xs = true) :
    Calls Try.prog 10 #[.slice ao n cap] w fun e w' => ∃ bo m c, e = .returned (.tuple #[.slice bo m c, .bool false, .int .i64 10]) ∧ Below w.heap.size w w' := by
  refine (rnormal_any ao n cap xs w h hn).mono ?_
  rintro e w' ⟨bo, m, c, rfl, hr, hb⟩
  obtain ⟨_, e1, e2⟩ := nrm_of_bad hx
  rw [e1, e2]
  exact ⟨_, _, _, rfl, hb⟩

theorem rnormal_good (ao : Option Addr) (n cap : Nat) (xs : List Int) (w : World) (h : Row w ao n cap xs) (hn : n ≤ 1000) (hx : badL xs = false) :
    Calls Try.prog 10 #[.slice ao n cap] w fun e w' => ∃ bo m c, e = .returned (.tuple #[.slice bo m c, .bool (alwF xs), .int .i64 0]) ∧ Below w.heap.size w w' := by
  refine (rnormal_any ao n cap xs w h hn).mono ?_
  rintro e w' ⟨bo, m, c, rfl, hr, hb⟩
  obtain ⟨e0, e1, e2⟩ := nrm_of_good hx
  rw [e2]
  exact ⟨_, _, _, rfl, hb⟩

theorem Own.keep {w w' : World} {B : Nat} {v : Value} {xs : List Int} (h : Own w B v xs) (b : Below w.heap.size w w') : Own w' B v xs := by
  refine ⟨⟨h.1.1, ?_⟩, h.2⟩
  rcases h.1.2 with hn | ⟨g, cap, cur, e, hb, hg, rest⟩
  · exact .inl hn
  · exact .inr ⟨g, cap, cur, e, hb, by rw [b.block g (Array.getElem?_eq_some_iff.1 hg).1]; exact hg, rest⟩

theorem meet_split (a b : List Int) (v : Int) (ha : Fit a) : meetF a b v = true ↔ (0 ≤ v ∧ v ≤ 4611686018427387903 ∧ hasF a (2 * v) = true ∧ hasF b (2 * v + 1) = true) := by
  rw [meetF, Bool.and_eq_true, Bool.and_eq_true, decide_eq_true_iff]
  constructor
  · rintro ⟨⟨h0, h1⟩, h2⟩
    have := ha _ ((hasF_mem a _).1 h1)
    exact ⟨h0, by omega, h1, h2⟩
  · rintro ⟨h0, _, h1, h2⟩
    exact ⟨⟨h0, h1⟩, h2⟩

set_option maxHeartbeats 4000000 in
theorem rresolve_some (ao bo : Option Addr) (n m cap cbp : Nat) (a b : List Int) (v : Int) (w : World) (h : Row w ao n cap a) (g : Row w bo m cbp b) (hn : n ≤ 400) (hm : m ≤ 400) (ha : badL a = false) (hb : badL b = false)
    (v0 : 0 ≤ v) (v1 : v ≤ 4611686018427387903) (hp : hasF a (2 * v) = true) (hq : hasF b (2 * v + 1) = true) :
    Calls Try.prog 19 #[.slice ao n cap, .slice bo m cbp, .int .i64 v] w fun e w' => ∃ co k c, e = .returned (.tuple #[.slice co k c, .int .i64 0]) ∧ Hid (Row w' co k c (rise (butF a (2 * v) ++ butF b (2 * v + 1)))) ∧ Below w.heap.size w w' := by
  have HA : Hid (Row w ao n cap a) := h
  have HB : Hid (Row w bo m cbp b) := g
  have n0 : ¬ v < 0 := by omega
  have L1 : (butF a (2 * v)).length ≤ 400 := Nat.le_trans (List.length_filter_le _ _) (by rw [h.1]; exact hn)
  have L2 : (butF b (2 * v + 1)).length ≤ 400 := Nat.le_trans (List.length_filter_le _ _) (by rw [g.1]; exact hm)
  have BL : Hid ((butF a (2 * v) ++ butF b (2 * v + 1)).length ≤ 1000) := by show _ ≤ _; rw [List.length_append]; omega
  have BM : Hid (∀ w' ao' m' c', Row w' ao' m' c' (butF b (2 * v + 1)) → (butF a (2 * v)).length + m' ≤ 1000000) := by
    intro w' ao' m' c' hr; rw [← hr.1]; omega
  clear h g L1 L2
  go_enter Try.func19, Try.ntmps19
  go_wp2_with (first
    | (go_at_call 10; with_reducible (refine (rnormal_good _ _ _ a _ HA.out (by omega) ha).mono ?_); rintro e w1 ⟨ao1, m1, c1, rfl, hb1⟩)
    | (go_at_call 10; with_reducible (refine (rnormal_good _ _ _ b _ (HB.out.keep hb1) (by omega) hb).mono ?_); rintro e w2 ⟨ao2, m2, c2, rfl, hb2⟩; have hb3 := Below.next hb1 hb2)
    | (go_at_call 15; with_reducible (refine (rhas_any _ _ _ a _ _ (HA.out.keep hb3)).mono ?_); rintro e w3 ⟨rfl, rfl⟩)
    | (go_at_call 15; with_reducible (refine (rhas_any _ _ _ b _ _ (HB.out.keep hb3)).mono ?_); rintro e w3 ⟨rfl, rfl⟩)
    | (go_at_call 34; with_reducible (refine (but_any _ _ _ a _ _ (HA.out.keep hb3) (by omega)).mono ?_); rintro e w4 ⟨v4, rfl, hown4, hb4⟩)
    | (go_at_call 34; with_reducible (refine (but_any _ _ _ b _ _ (HB.out.keep (Below.next hb3 hb4)) (by omega)).mono ?_); rintro e w5 ⟨v5, rfl, hown5, hb5⟩; have hown6 := hown4.out.keep hb5; obtain ⟨ao5, m5, c5, rfl, hr5⟩ := hown5.out.shape)
    | (at_builtin; refine append_ints rfl (.tmp 58) (.tmp 63) rfl _ _ _ _ rfl hown6 _ _ _ rfl hr5.out (BM.out _ _ _ _ hr5.out) (Nat.le_trans hb4.size hb5.size) ?_; intro v6 w6 hown7 hb6; obtain ⟨ao7, m7, c7, rfl, hr7⟩ := hown7.out.shape)
    | (go_at_call 25; with_reducible (refine (sorted_any _ _ _ _ _ hr7.out (le_of_row hr7.out BL.out)).mono ?_); rintro e w8 ⟨ao8, m8, c8, rfl, hr8, hb8⟩))
  go_ret2
  exact ⟨_, _, _, rfl, hr8, Below.next ((Below.next (Below.next hb3 hb4) hb5).trans (hb6.out.mono hb3.size)) hb8⟩

set_option maxHeartbeats 4000000 in
theorem rresolve_none (ao bo : Option Addr) (n m cap cbp : Nat) (a b : List Int) (v : Int) (w : World) (h : Row w ao n cap a) (g : Row w bo m cbp b) (hn : n ≤ 400) (hm : m ≤ 400) (ha : badL a = false) (hb : badL b = false)
    (hx : ¬ (0 ≤ v ∧ v ≤ 4611686018427387903 ∧ hasF a (2 * v) = true ∧ hasF b (2 * v + 1) = true)) :
    Calls Try.prog 19 #[.slice ao n cap, .slice bo m cbp, .int .i64 v] w fun e w' => e = .returned (.tuple #[.slice none 0 0, .int .i64 9]) ∧ Below w.heap.size w w' := by
  have HA : Hid (Row w ao n cap a) := h
  have HB : Hid (Row w bo m cbp b) := g
  clear h g
  by_cases h0 : v < 0
  · clear hx
    go_enter Try.func19, Try.ntmps19
    go_wp2_with (first
      | (go_at_call 10; with_reducible (refine (rnormal_good _ _ _ a _ HA.out (by omega) ha).mono ?_); rintro e w1 ⟨ao1, m1, c1, rfl, hb1⟩)
      | (go_at_call 10; with_reducible (refine (rnormal_good _ _ _ b _ (HB.out.keep hb1) (by omega) hb).mono ?_); rintro e w2 ⟨ao2, m2, c2, rfl, hb2⟩; have hb3 := Below.next hb1 hb2))
    go_ret2
    exact ⟨rfl, hb3⟩
  by_cases h1 : 4611686018427387903 < v
  · clear hx
    go_enter Try.func19, Try.ntmps19
    go_wp2_with (first
      | (go_at_call 10; with_reducible (refine (rnormal_good _ _ _ a _ HA.out (by omega) ha).mono ?_); rintro e w1 ⟨ao1, m1, c1, rfl, hb1⟩)
      | (go_at_call 10; with_reducible (refine (rnormal_good _ _ _ b _ (HB.out.keep hb1) (by omega) hb).mono ?_); rintro e w2 ⟨ao2, m2, c2, rfl, hb2⟩; have hb3 := Below.next hb1 hb2))
    go_ret2
    exact ⟨rfl, hb3⟩
  have v0 : 0 ≤ v := by omega
  have v1 : v ≤ 4611686018427387903 := by omega
  cases hp : hasF a (2 * v)
  · clear hx
    go_enter Try.func19, Try.ntmps19
    go_wp2_with (first
      | (go_at_call 10; with_reducible (refine (rnormal_good _ _ _ a _ HA.out (by omega) ha).mono ?_); rintro e w1 ⟨ao1, m1, c1, rfl, hb1⟩)
      | (go_at_call 10; with_reducible (refine (rnormal_good _ _ _ b _ (HB.out.keep hb1) (by omega) hb).mono ?_); rintro e w2 ⟨ao2, m2, c2, rfl, hb2⟩; have hb3 := Below.next hb1 hb2)
      | (go_at_call 15; with_reducible (refine (rhas_any _ _ _ a _ _ (HA.out.keep hb3)).mono ?_); rintro e w3 ⟨rfl, rfl⟩))
    go_ret2
    exact ⟨rfl, hb3⟩
  · have hq : hasF b (2 * v + 1) = false := by
      cases e : hasF b (2 * v + 1)
      · rfl
      · exact absurd ⟨v0, v1, hp, e⟩ hx
    clear hx
    go_enter Try.func19, Try.ntmps19
    go_wp2_with (first
      | (go_at_call 10; with_reducible (refine (rnormal_good _ _ _ a _ HA.out (by omega) ha).mono ?_); rintro e w1 ⟨ao1, m1, c1, rfl, hb1⟩)
      | (go_at_call 10; with_reducible (refine (rnormal_good _ _ _ b _ (HB.out.keep hb1) (by omega) hb).mono ?_); rintro e w2 ⟨ao2, m2, c2, rfl, hb2⟩; have hb3 := Below.next hb1 hb2)
      | (go_at_call 15; with_reducible (refine (rhas_any _ _ _ a _ _ (HA.out.keep hb3)).mono ?_); rintro e w3 ⟨rfl, rfl⟩)
      | (go_at_call 15; with_reducible (refine (rhas_any _ _ _ b _ _ (HB.out.keep hb3)).mono ?_); rintro e w3 ⟨rfl, rfl⟩))
    go_ret2
    exact ⟨rfl, hb3⟩

set_option maxHeartbeats 2000000 in
theorem rresolve_bad (ao bo : Option Addr) (n m cap cbp : Nat) (a b : List Int) (v : Int) (w : World) (h : Row w ao n cap a) (g : Row w bo m cbp b) (hn : n ≤ 400) (hm : m ≤ 400) (hx : badL a = true ∨ badL b = true) :
    Calls Try.prog 19 #[.slice ao n cap, .slice bo m cbp, .int .i64 v] w fun e w' => e = .returned (.tuple #[.slice none 0 0, .int .i64 10]) ∧ Below w.heap.size w w' := by
  have HA : Hid (Row w ao n cap a) := h
  have HB : Hid (Row w bo m cbp b) := g
  clear h g
  cases ha : badL a
  · have hbb : badL b = true := by rw [ha] at hx; simpa using hx
    go_enter Try.func19, Try.ntmps19
    go_wp2_with (first
      | (go_at_call 10; with_reducible (refine (rnormal_good _ _ _ a _ HA.out (by omega) ha).mono ?_); rintro e w1 ⟨ao1, m1, c1, rfl, hb1⟩)
      | (go_at_call 10; with_reducible (refine (rnormal_bad _ _ _ b _ (HB.out.keep hb1) (by omega) hbb).mono ?_); rintro e w2 ⟨ao2, m2, c2, rfl, hb2⟩))
    go_ret2
    exact ⟨rfl, Below.next hb1 hb2⟩
  · go_enter Try.func19, Try.ntmps19
    go_wp2_with (go_at_call 10; with_reducible (refine (rnormal_bad _ _ _ a _ HA.out (by omega) ha).mono ?_); rintro e w1 ⟨ao1, m1, c1, rfl, hb1⟩)
    go_ret2
    exact ⟨rfl, hb1⟩

theorem rresolve_any (ao bo : Option Addr) (n m cap cbp : Nat) (a b : List Int) (v : Int) (w : World) (h : Row w ao n cap a) (g : Row w bo m cbp b) (hn : n ≤ 400) (hm : m ≤ 400) :
    Calls Try.prog 19 #[.slice ao n cap, .slice bo m cbp, .int .i64 v] w fun e w' => ∃ co k c, e = .returned (.tuple #[.slice co k c, .int .i64 (resE a b v)]) ∧ Hid (Row w' co k c (resF a b v)) ∧ Below w.heap.size w w' := by
  by_cases hx : badL a = true ∨ badL b = true
  · have e : resF a b v = [] ∧ resE a b v = 10 := by
      rcases hx with hx | hx
      · simp [resF, resE, hx]
      · cases ha : badL a <;> simp [resF, resE, ha, hx]
    refine (rresolve_bad ao bo n m cap cbp a b v w h g hn hm hx).mono ?_
    rintro e' w' ⟨rfl, hb⟩
    rw [e.1, e.2]
    exact ⟨_, _, _, rfl, row_nil _, hb⟩
  · have ha : badL a = false := by cases e : badL a; rfl; exact absurd (.inl e) hx
    have hb : badL b = false := by cases e : badL b; rfl; exact absurd (.inr e) hx
    have hf : Fit a := h.2.2.2.2.1
    by_cases hy : 0 ≤ v ∧ v ≤ 4611686018427387903 ∧ hasF a (2 * v) = true ∧ hasF b (2 * v + 1) = true
    · have hm' := (meet_split a b v hf).2 hy
      have e : resF a b v = rise (butF a (2 * v) ++ butF b (2 * v + 1)) ∧ resE a b v = 0 := by simp [resF, resE, ha, hb, hm']
      refine (rresolve_some ao bo n m cap cbp a b v w h g hn hm ha hb hy.1 hy.2.1 hy.2.2.1 hy.2.2.2).mono ?_
      rintro e' w' ⟨co, k, c, rfl, hr, hb⟩
      rw [e.1, e.2]
      exact ⟨_, _, _, rfl, hr, hb⟩
    · have hm' : meetF a b v = false := by cases e : meetF a b v; rfl; exact absurd ((meet_split a b v hf).1 e) hy
      have e : resF a b v = [] ∧ resE a b v = 9 := by simp [resF, resE, ha, hb, hm']
      refine (rresolve_none ao bo n m cap cbp a b v w h g hn hm ha hb hy).mono ?_
      rintro e' w' ⟨rfl, hb⟩
      rw [e.1, e.2]
      exact ⟨_, _, _, rfl, row_nil _, hb⟩

/-! ### Within -/
theorem search_any (ao : Option Addr) (n cap : Nat) (xs : List Int) (x : Int) (w : World) (h : Row w ao n cap xs) (hn : n ≤ 1000) (hr : xs.Pairwise (· < ·)) :
    Calls Try.prog 31 #[.slice ao n cap, .int .i64 x] w fun e w' => ∃ r, e = .returned (.tuple #[.int .i64 r, .bool (hasF xs x)]) ∧ Below w.heap.size w w' := by
  by_cases h0 : n = 0
  · subst h0
    have e : xs = [] := List.eq_nil_of_length_eq_zero h.1
    subst e
    refine (Try.slices_BinarySearch_int_empty ao cap x w).mono ?_
    rintro e w' ⟨rfl, rfl⟩
    exact ⟨_, rfl, Below.refl _ _⟩
  · obtain ⟨b, off, e, hc⟩ := h.2.2.2.2.2 (by omega)
    subst e
    have hl := h.1
    refine (Try.slices_BinarySearch_int b off n cap xs x w (by omega) (by omega) (fun j hj => hc j (by omega)) ?_).mono ?_
    · exact (hr.imp (fun h => Int.le_of_lt h)).sublist (List.take_sublist _ _)
    · rintro e w' ⟨rfl, q, rfl⟩
      have e : xs.contains x = hasF xs x := by rw [Bool.eq_iff_iff, hasF_mem]; simp
      rw [List.take_of_length_le (by omega), e]
      exact ⟨_, rfl, Below.drewN (Below.refl _ _) q⟩

theorem within_any (ao bo : Option Addr) (n m cap cbp : Nat) (xs ys : List Int) (w : World) (h : Row w ao n cap xs) (g : Row w bo m cbp ys) (hm : m ≤ 1000) :
    Calls Try.prog 16 #[.slice ao n cap, .slice bo m cbp] w fun e w' => e = .returned (.bool (withF xs ys)) ∧ Below w.heap.size w w' := by
  have HR : Hid (Row w ao n cap xs) := h
  have GR : Hid (Row w bo m cbp ys) := g
  have hx := h.max
  have HE : Hid (∀ x, hasF (rise ys) x = hasF ys x) := by
    intro x; rw [Bool.eq_iff_iff, hasF_mem, hasF_mem]; exact mem_rise ys x
  have BL : Hid ((rise ys).length ≤ 1000) := Nat.le_trans (len_rise ys) (by rw [g.1]; exact hm)
  clear h g
  go_enter Try.func16, Try.ntmps16
  go_wp2_with (go_at_call 22; with_reducible (refine (rising_any _ _ _ ys _ GR.out hm).mono ?_); rintro e w1 ⟨co, k1, c1, rfl, hr1, hb1⟩)
  go_loopw [7, 8, 9, 14] (fun _ _ _ i wr => ∃ k : Nat, k ≤ n ∧ i = .int .i64 k ∧ Hid ((xs.take k).any (fun x => !(hasF ys x)) = false) ∧ Below w1.heap.size w1 wr) (fun _ _ _ i _ => n - (intOf i).toNat)
  case atStart => exact ⟨0, Nat.zero_le _, rfl, rfl, Below.refl _ _⟩
  case round =>
    obtain ⟨k, hk, rfl, hno, hb⟩ := hrel
    by_cases hlt : k < n
    · obtain ⟨b, off, y, rfl, hc, hy, _, hu⟩ := (HR.out.keep (Below.next hb1 hb)).at hlt
      have hr2 : Hid (Row wr co k1 c1 (rise ys)) := hr1.out.keep hb
      cases he : hasF ys y
      · have HV : Hid (withF xs ys = false) := by
          show withF xs ys = false
          rw [withF, any_hit hy.out (by simp [he])]; rfl
        have he2 : hasF (rise ys) y = false := (HE.out y).trans he
        go_wp2_with (go_at_call 31; with_reducible (refine (search_any _ _ _ _ _ _ hr2.out (le_of_row hr2.out BL.out) (up_rise ys)).mono ?_); rintro e w2 ⟨r, rfl, hb2⟩)
        go_ret
        exact ⟨by rw [HV.out]; rfl, Below.next (Below.next hb1 hb) hb2⟩
      · have HV : Hid ((xs.take (k + 1)).any (fun x => !(hasF ys x)) = false) := any_step hno.out hy.out (by simp [he])
        have he2 : hasF (rise ys) y = true := (HE.out y).trans he
        go_wp2_with (go_at_call 31; with_reducible (refine (search_any _ _ _ _ _ _ hr2.out (le_of_row hr2.out BL.out) (up_rise ys)).mono ?_); rintro e w2 ⟨r, rfl, hb2⟩)
        go_roundw
        case rel => exact ⟨k + 1, by omega, by go_num, HV, Below.next hb hb2⟩
        case measure => simp [intOf]; omega
    · have HV : Hid (withF xs ys = true) := by
        show withF xs ys = true
        rw [withF, any_end hno.out (by rw [HR.out.1]; omega)]; rfl
      go_wp2
      go_ret
      exact ⟨by rw [HV.out]; rfl, Below.next hb1 hb⟩

end Go.Proofs.Ytgnoejcekbfkoaa
