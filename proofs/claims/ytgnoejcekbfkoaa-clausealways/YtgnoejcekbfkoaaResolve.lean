/-
  Resolve, of the program.
-/
import Derived.Test.YtgnoejcekbfkoaaConcat
namespace Go.Proofs.Ytgnoejcekbfkoaa
open Go.RowKit
set_option linter.unusedVariables false

theorem place_none (ao : Option Addr) (n cap : Nat) (xs : List Int) (v : Int) (neg : Bool) (w : World) (h : Row w ao n cap xs) (ha : xs.any (fun x => plcF x v neg) = false) :
    Calls Try.prog 32 #[.slice ao n cap, .int .i64 v, .bool neg] w fun e w' => e = .returned (.int .i64 (-1)) ∧ Below w.heap.size w w' := by
  refine (place_any ao n cap xs v neg w h).mono ?_
  rintro e w' ⟨⟨r, rfl, hr⟩, hb⟩
  rcases hr.out with ⟨rfl, _⟩ | ⟨i, y, rfl, hy, hp⟩
  · exact ⟨rfl, hb⟩
  · rw [any_hit hy hp] at ha; simp at ha

theorem place_some (ao : Option Addr) (n cap : Nat) (xs : List Int) (v : Int) (neg : Bool) (w : World) (h : Row w ao n cap xs) (ha : xs.any (fun x => plcF x v neg) = true) :
    Calls Try.prog 32 #[.slice ao n cap, .int .i64 v, .bool neg] w fun e w' => ∃ i : Nat, e = .returned (.int .i64 i) ∧ i < n ∧ Hid (∃ y, xs[i]? = some y ∧ plcF y v neg = true) ∧ Below w.heap.size w w' := by
  refine (place_any ao n cap xs v neg w h).mono ?_
  rintro e w' ⟨⟨r, rfl, hr⟩, hb⟩
  rcases hr.out with ⟨rfl, hn⟩ | ⟨i, y, rfl, hy, hp⟩
  · rw [hn] at ha; simp at ha
  · exact ⟨i, rfl, by rw [← h.1]; exact (List.getElem?_eq_some_iff.1 hy).1, ⟨y, hy, hp⟩, hb⟩

def fA {α : Type} (d a0 a1 a2 a3 : α) : Nat → α
  | 0 => a0
  | 1 => a1
  | 2 => a2
  | 3 => a3
  | _ => d

theorem four4 {w : World} {g : Nat} {a0 a1 a2 a3 : Option Addr} {n0 n1 n2 n3 c0 c1 c2 c3 : Nat} {l0 l1 l2 l3 : List Int}
    (hg : w.heap[g]? = some (.cells #[.slice a0 n0 c0, .slice a1 n1 c1, .slice a2 n2 c2, .slice a3 n3 c3] 22 (0, 0)))
    (r0 : Row w a0 n0 c0 l0) (r1 : Row w a1 n1 c1 l1) (r2 : Row w a2 n2 c2 l2) (r3 : Row w a3 n3 c3 l3) (h0 : n0 ≤ 1000) (h1 : n1 ≤ 1000) (h2 : n2 ≤ 1000) (h3 : n3 ≤ 1000) :
    Four w g (fA none a0 a1 a2 a3) (fA 0 n0 n1 n2 n3) (fA 0 c0 c1 c2 c3) (fA [] l0 l1 l2 l3) := by
  refine ⟨fun i hi => ?_, fun i hi => ?_, fun i hi => ?_⟩
  · match i, hi with
    | 0, _ => simp [World.cell?, hg, fA]
    | 1, _ => simp [World.cell?, hg, fA]
    | 2, _ => simp [World.cell?, hg, fA]
    | 3, _ => simp [World.cell?, hg, fA]
  · match i, hi with
    | 0, _ => exact r0
    | 1, _ => exact r1
    | 2, _ => exact r2
    | 3, _ => exact r3
  · match i, hi with
    | 0, _ => exact h0
    | 1, _ => exact h1
    | 2, _ => exact h2
    | 3, _ => exact h3

/-! ### What is left of two lists -/
def litF (v : Int) (neg : Bool) : Int := if neg = true then 2 * v + 1 else 2 * v

theorem plc_iff {y v : Int} {neg : Bool} (h0 : 0 ≤ y) : plcF y v neg = true ↔ y = litF v neg ∧ 0 ≤ v := by
  have hn : ¬ y < 0 := by omega
  cases neg
  · simp [plcF, varF, negF, litF, hn]; omega
  · simp [plcF, varF, negF, litF, hn]; omega

theorem good_mem {xs : List Int} (h : badL xs = false) : ∀ y ∈ xs, 0 ≤ y := fun y hy => good_all h y ((mem_rise xs y).2 hy)

theorem plc_any {xs : List Int} {v : Int} {neg : Bool} (h : badL xs = false) : (rise xs).any (fun x => plcF x v neg) = (decide (0 ≤ v) && hasF xs (litF v neg)) := by
  rw [Bool.eq_iff_iff, List.any_eq_true, Bool.and_eq_true, hasF_mem, decide_eq_true_iff]
  constructor
  · rintro ⟨x, hx, hp⟩
    obtain ⟨e, h0⟩ := (plc_iff (good_all h x hx)).1 hp
    exact ⟨h0, e ▸ (mem_rise xs x).1 hx⟩
  · rintro ⟨h0, hm⟩
    exact ⟨_, (mem_rise xs _).2 hm, (plc_iff (good_mem h _ hm)).2 ⟨rfl, h0⟩⟩

theorem without {r : List Int} (hr : r.Pairwise (· < ·)) {i : Nat} {y : Int} (hy : r[i]? = some y) (z : Int) : (z ∈ r.take i ∨ z ∈ r.drop (i + 1)) ↔ (z ∈ r ∧ z ≠ y) := by
  obtain ⟨hi, e⟩ := List.getElem?_eq_some_iff.1 hy
  rw [List.pairwise_iff_getElem] at hr
  constructor
  · rintro (h | h)
    · obtain ⟨j, hj, rfl⟩ := List.mem_iff_getElem.1 h
      have hj' : j < i := by simp at hj; omega
      rw [List.getElem_take]
      have := hr j i (by omega) hi hj'
      exact ⟨List.getElem_mem _, by omega⟩
    · obtain ⟨j, hj, rfl⟩ := List.mem_iff_getElem.1 h
      rw [List.getElem_drop]
      have hj' : i + 1 + j < r.length := by simp at hj; omega
      have := hr i (i + 1 + j) hi hj' (by omega)
      exact ⟨List.getElem_mem _, by omega⟩
  · rintro ⟨hz, hne⟩
    obtain ⟨j, hj, rfl⟩ := List.mem_iff_getElem.1 hz
    rcases Nat.lt_trichotomy j i with h | h | h
    · left; exact List.mem_iff_getElem.2 ⟨j, by simp; omega, by simp⟩
    · subst h; exact absurd e hne
    · right; exact List.mem_iff_getElem.2 ⟨j - (i + 1), by simp; omega, by simp [List.getElem_drop]; congr 1; omega⟩

theorem res_join {a b : List Int} {v : Int} {i j : Nat} (ha : badL a = false) (hb : badL b = false) (hi : ∃ y, (rise a)[i]? = some y ∧ plcF y v false = true) (hj : ∃ y, (rise b)[j]? = some y ∧ plcF y v true = true) :
    rise (catF (fA [] ((rise a).take i) ((rise a).drop (i + 1)) ((rise b).take j) ((rise b).drop (j + 1))) 4) = resF a b v ∧ resE a b v = 0 := by
  obtain ⟨y, hy, py⟩ := hi
  obtain ⟨z, hz, pz⟩ := hj
  obtain ⟨ey, h0⟩ := (plc_iff (good_all ha y (List.mem_of_getElem? hy))).1 py
  obtain ⟨ez, _⟩ := (plc_iff (good_all hb z (List.mem_of_getElem? hz))).1 pz
  have my := (mem_rise a y).1 (List.mem_of_getElem? hy)
  have mz := (mem_rise b z).1 (List.mem_of_getElem? hz)
  have ey' : y = 2 * v := by simpa [litF] using ey
  have ez' : z = 2 * v + 1 := by simpa [litF] using ez
  have hm : meetF a b v = true := by
    rw [meetF, Bool.and_eq_true, Bool.and_eq_true, hasF_mem, hasF_mem, decide_eq_true_iff]
    exact ⟨⟨h0, ey' ▸ my⟩, ez' ▸ mz⟩
  refine ⟨?_, by simp [resE, ha, hb, hm]⟩
  have e : resF a b v = rise (butF a (2 * v) ++ butF b (2 * v + 1)) := by simp [resF, ha, hb, hm]
  rw [e]
  refine rise_congr fun x => ?_
  simp only [catF, fA, List.nil_append, List.mem_append, butF, List.mem_filter, bne_iff_ne]
  have w1 := without (up_rise a) hy x
  have w2 := without (up_rise b) hz x
  rw [mem_rise, ey'] at w1
  rw [mem_rise, ez'] at w2
  rw [← w1, ← w2]
  constructor
  · rintro (((h | h) | h) | h) <;> simp [h]
  · rintro ((h | h) | (h | h)) <;> simp [h]

theorem res_none {a b : List Int} {v : Int} (ha : badL a = false) (hb : badL b = false) (h : (rise a).any (fun x => plcF x v false) = false ∨ (rise b).any (fun x => plcF x v true) = false) : resF a b v = [] ∧ resE a b v = 9 := by
  rw [plc_any ha, plc_any hb] at h
  have hm : meetF a b v = false := by
    cases e : meetF a b v
    · rfl
    · rw [meetF, Bool.and_eq_true, Bool.and_eq_true] at e
      rcases h with h | h
      · simp [litF, e.1.1, e.1.2] at h
      · simp [litF] at h
        have h0 := e.1.1; rw [decide_eq_true_iff] at h0
        rw [h h0] at e; simp at e
  simp [resE, resF, ha, hb, hm]

theorem le_of_row {w : World} {ao : Option Addr} {m c k : Nat} {xs : List Int} (h : Row w ao m c xs) (hl : xs.length ≤ k) : m ≤ k := by rw [← h.1]; exact hl

theorem normal_bad (ao : Option Addr) (n cap : Nat) (xs : List Int) (w : World) (h : Row w ao n cap xs) (hn : n ≤ 1000) (hx : badL xs = true) :
    Calls Try.prog 9 #[.slice ao n cap] w fun e w' => ∃ bo m c, e = .returned (.tuple #[.slice bo m c, .bool false, .int .i64 10]) ∧ Below w.heap.size w w' := by
  refine (normal_any ao n cap xs w h hn).mono ?_
  rintro e w' ⟨bo, m, c, rfl, hr, hb⟩
  obtain ⟨_, e1, e2⟩ := nrm_of_bad hx
  rw [e1, e2]
  exact ⟨_, _, _, rfl, hb⟩

theorem normal_good (ao : Option Addr) (n cap : Nat) (xs : List Int) (w : World) (h : Row w ao n cap xs) (hn : n ≤ 1000) (hx : badL xs = false) :
    Calls Try.prog 9 #[.slice ao n cap] w fun e w' => ∃ bo m c, e = .returned (.tuple #[.slice bo m c, .bool (alwF xs), .int .i64 0]) ∧ Hid (Row w' bo m c (rise xs)) ∧ Below w.heap.size w w' := by
  refine (normal_any ao n cap xs w h hn).mono ?_
  rintro e w' ⟨bo, m, c, rfl, hr, hb⟩
  obtain ⟨e0, e1, e2⟩ := nrm_of_good hx
  rw [e0] at hr
  rw [e2]
  exact ⟨_, _, _, rfl, hr, hb⟩

set_option maxHeartbeats 2000000 in
theorem resolve_bad (ao bo : Option Addr) (n m cap cbp : Nat) (a b : List Int) (v : Int) (w : World) (h : Row w ao n cap a) (g : Row w bo m cbp b) (hn : n ≤ 400) (hm : m ≤ 400) (hx : badL a = true ∨ badL b = true) :
    Calls Try.prog 18 #[.slice ao n cap, .slice bo m cbp, .int .i64 v] w fun e w' => e = .returned (.tuple #[.slice none 0 0, .int .i64 10]) ∧ Below w.heap.size w w' := by
  have HA : Hid (Row w ao n cap a) := h
  have HB : Hid (Row w bo m cbp b) := g
  clear h g
  cases ha : badL a
  · have hbb : badL b = true := by rw [ha] at hx; simpa using hx
    go_enter Try.func18, Try.ntmps18
    go_wp2_with (first
      | (go_at_call 9; with_reducible (refine (normal_good _ _ _ a _ HA.out (by omega) ha).mono ?_); rintro e w1 ⟨ao1, m1, c1, rfl, hr1, hb1⟩)
      | (go_at_call 9; with_reducible (refine (normal_bad _ _ _ b _ (HB.out.keep hb1) (by omega) hbb).mono ?_); rintro e w2 ⟨ao2, m2, c2, rfl, hb2⟩))
    go_ret2
    exact ⟨rfl, Below.next hb1 hb2⟩
  · go_enter Try.func18, Try.ntmps18
    go_wp2_with (go_at_call 9; with_reducible (refine (normal_bad _ _ _ a _ HA.out (by omega) ha).mono ?_); rintro e w1 ⟨ao1, m1, c1, rfl, hb1⟩)
    go_ret2
    exact ⟨rfl, hb1⟩

set_option maxHeartbeats 2000000 in
theorem resolve_none (ao bo : Option Addr) (n m cap cbp : Nat) (a b : List Int) (v : Int) (w : World) (h : Row w ao n cap a) (g : Row w bo m cbp b) (hn : n ≤ 400) (hm : m ≤ 400) (ha : badL a = false) (hb : badL b = false)
    (hx : (rise a).any (fun x => plcF x v false) = false ∨ (rise b).any (fun x => plcF x v true) = false) :
    Calls Try.prog 18 #[.slice ao n cap, .slice bo m cbp, .int .i64 v] w fun e w' => e = .returned (.tuple #[.slice none 0 0, .int .i64 9]) ∧ Below w.heap.size w w' := by
  have HA : Hid (Row w ao n cap a) := h
  have HB : Hid (Row w bo m cbp b) := g
  clear h g
  cases hp : (rise a).any (fun x => plcF x v false)
  · cases hq : (rise b).any (fun x => plcF x v true)
    · go_enter Try.func18, Try.ntmps18
      go_wp2_with (first
        | (go_at_call 9; with_reducible (refine (normal_good _ _ _ a _ HA.out (by omega) ha).mono ?_); rintro e w1 ⟨ao1, m1, c1, rfl, hr1, hb1⟩)
        | (go_at_call 9; with_reducible (refine (normal_good _ _ _ b _ (HB.out.keep hb1) (by omega) hb).mono ?_); rintro e w2 ⟨ao2, m2, c2, rfl, hr2, hb2⟩)
        | (go_at_call 32; with_reducible (refine (place_none _ _ _ _ _ _ _ (hr1.out.keep hb2) hp).mono ?_); rintro e w3 ⟨rfl, hb3⟩)
        | (go_at_call 32; with_reducible (refine (place_none _ _ _ _ _ _ _ (hr2.out.keep hb3) hq).mono ?_); rintro e w4 ⟨rfl, hb4⟩))
      go_ret2
      exact ⟨rfl, Below.next (Below.next hb1 hb2) (Below.next hb3 hb4)⟩
    · go_enter Try.func18, Try.ntmps18
      go_wp2_with (first
        | (go_at_call 9; with_reducible (refine (normal_good _ _ _ a _ HA.out (by omega) ha).mono ?_); rintro e w1 ⟨ao1, m1, c1, rfl, hr1, hb1⟩)
        | (go_at_call 9; with_reducible (refine (normal_good _ _ _ b _ (HB.out.keep hb1) (by omega) hb).mono ?_); rintro e w2 ⟨ao2, m2, c2, rfl, hr2, hb2⟩)
        | (go_at_call 32; with_reducible (refine (place_none _ _ _ _ _ _ _ (hr1.out.keep hb2) hp).mono ?_); rintro e w3 ⟨rfl, hb3⟩)
        | (go_at_call 32; with_reducible (refine (place_some _ _ _ _ _ _ _ (hr2.out.keep hb3) hq).mono ?_); rintro e w4 ⟨j, rfl, hj, hjy, hb4⟩))
      go_ret2
      exact ⟨rfl, Below.next (Below.next hb1 hb2) (Below.next hb3 hb4)⟩
  · have hq : (rise b).any (fun x => plcF x v true) = false := by rw [hp] at hx; simpa using hx
    go_enter Try.func18, Try.ntmps18
    go_wp2_with (first
      | (go_at_call 9; with_reducible (refine (normal_good _ _ _ a _ HA.out (by omega) ha).mono ?_); rintro e w1 ⟨ao1, m1, c1, rfl, hr1, hb1⟩)
      | (go_at_call 9; with_reducible (refine (normal_good _ _ _ b _ (HB.out.keep hb1) (by omega) hb).mono ?_); rintro e w2 ⟨ao2, m2, c2, rfl, hr2, hb2⟩)
      | (go_at_call 32; with_reducible (refine (place_some _ _ _ _ _ _ _ (hr1.out.keep hb2) hp).mono ?_); rintro e w3 ⟨i, rfl, hi, hiy, hb3⟩)
      | (go_at_call 32; with_reducible (refine (place_none _ _ _ _ _ _ _ (hr2.out.keep hb3) hq).mono ?_); rintro e w4 ⟨rfl, hb4⟩))
    go_ret2
    exact ⟨rfl, Below.next (Below.next hb1 hb2) (Below.next hb3 hb4)⟩

theorem cut4 {w1 w2 w4 : World} {b1 o1 b2 o2 m1 c1 m2 c2 i j : Nat} {p q : List Int} (h1 : Row w1 (some ⟨b1, o1, none⟩) m1 c1 p) (h2 : Row w2 (some ⟨b2, o2, none⟩) m2 c2 q) (hb1 : Below w1.heap.size w1 w4) (hb2 : Below w2.heap.size w2 w4)
    (hi : i < m1) (hj : j < m2) (e1 : m1 ≤ 400) (e2 : m2 ≤ 400) :
    Hid (∀ x1 n1 k1 x2 n2 k2, n1 = m1 - (i + 1) → k1 = c1 - (i + 1) → (x1 = none → k1 = 0) → (0 < n1 → x1 = some ⟨b1, o1 + (i + 1), none⟩) → n2 = m2 - (j + 1) → k2 = c2 - (j + 1) → (x2 = none → k2 = 0) → (0 < n2 → x2 = some ⟨b2, o2 + (j + 1), none⟩) →
      Four (w4.alloc (.cells #[.slice (some ⟨b1, o1, none⟩) i c1, .slice x1 n1 k1, .slice (some ⟨b2, o2, none⟩) j c2, .slice x2 n2 k2] 22)).drew w4.heap.size (fA none (some ⟨b1, o1, none⟩) x1 (some ⟨b2, o2, none⟩) x2) (fA 0 i n1 j n2) (fA 0 c1 k1 c2 k2) (fA [] (p.take i) (p.drop (i + 1)) (q.take j) (q.drop (j + 1)))) := by
  intro x1 n1 k1 x2 n2 k2 a1 a2 a3 a4 a5 a6 a7 a8
  have q1 := h1.keep ((hb1.alloc hb1.size (.cells #[.slice (some ⟨b1, o1, none⟩) i c1, .slice x1 n1 k1, .slice (some ⟨b2, o2, none⟩) j c2, .slice x2 n2 k2] 22)).drew)
  have q2 := h2.keep ((hb2.alloc hb2.size (.cells #[.slice (some ⟨b1, o1, none⟩) i c1, .slice x1 n1 k1, .slice (some ⟨b2, o2, none⟩) j c2, .slice x2 n2 k2] 22)).drew)
  exact four4 (w := (w4.alloc (.cells #[.slice (some ⟨b1, o1, none⟩) i c1, .slice x1 n1 k1, .slice (some ⟨b2, o2, none⟩) j c2, .slice x2 n2 k2] 22)).drew) (heap_alloc_new w4 (.cells #[.slice (some ⟨b1, o1, none⟩) i c1, .slice x1 n1 k1, .slice (some ⟨b2, o2, none⟩) j c2, .slice x2 n2 k2] 22)) (q1.take (by omega)) (q1.drop (by omega) a1 a2 a3 (fun b o e hp => by cases e; exact a4 hp)) (q2.take (by omega)) (q2.drop (by omega) a5 a6 a7 (fun b o e hp => by cases e; exact a8 hp)) (by omega) (by omega) (by omega) (by omega)

set_option maxHeartbeats 4000000 in
theorem resolve_some (ao bo : Option Addr) (n m cap cbp : Nat) (a b : List Int) (v : Int) (w : World) (h : Row w ao n cap a) (g : Row w bo m cbp b) (hn : n ≤ 400) (hm : m ≤ 400) (ha : badL a = false) (hb : badL b = false)
    (hp : (rise a).any (fun x => plcF x v false) = true) (hq : (rise b).any (fun x => plcF x v true) = true) :
    Calls Try.prog 18 #[.slice ao n cap, .slice bo m cbp, .int .i64 v] w fun e w' => ∃ co k c, e = .returned (.tuple #[.slice co k c, .int .i64 0]) ∧ Hid (Row w' co k c (resF a b v)) ∧ Below w.heap.size w w' := by
  have HA : Hid (Row w ao n cap a) := h
  have HB : Hid (Row w bo m cbp b) := g
  clear h g
  go_enter Try.func18, Try.ntmps18
  go_wp2_with (first
    | (go_at_call 9; with_reducible (refine (normal_good _ _ _ a _ HA.out (by omega) ha).mono ?_); rintro e w1 ⟨ao1, m1, c1, rfl, hr1, hb1⟩)
    | (go_at_call 9; with_reducible (refine (normal_good _ _ _ b _ (HB.out.keep hb1) (by omega) hb).mono ?_); rintro e w2 ⟨ao2, m2, c2, rfl, hr2, hb2⟩)
    | (go_at_call 32; with_reducible (refine (place_some _ _ _ _ _ _ _ (hr1.out.keep hb2) hp).mono ?_); rintro e w3 ⟨i, rfl, hi, hiy, hb3⟩)
    | (go_at_call 32; with_reducible (refine (place_some _ _ _ _ _ _ _ (hr2.out.keep hb3) hq).mono ?_); rintro e w4 ⟨j, rfl, hj, hjy, hb4⟩))
  obtain ⟨b1, o1, y1, rfl, hc1, _, _, _⟩ := hr1.out.at hi
  obtain ⟨b2, o2, y2, rfl, hc2, _, _, _⟩ := hr2.out.at hj
  have e1 := hr1.out.2.1
  have e2 := hr2.out.2.1
  have l1 := hr1.out.2.2.1
  have l2 := hr2.out.2.2.1
  unfold maxLen at l1 l2
  have hw1 : IntKind.i64.wrap ((i : Int) + 1) = (i : Int) + 1 := IntWalk.i64_in _ (by omega)
  have hw2 : IntKind.i64.wrap ((j : Int) + 1) = (j : Int) + 1 := IntWalk.i64_in _ (by omega)
  have k1 : (i : Int) ≤ (c1 : Int) := by omega
  have k2 : (i : Int) + 1 ≤ (m1 : Int) := by omega
  have k3 : (j : Int) ≤ (c2 : Int) := by omega
  have k4 : (j : Int) + 1 ≤ (m2 : Int) := by omega
  have k5 : (m1 : Int) ≤ (c1 : Int) := by omega
  have k6 : (m2 : Int) ≤ (c2 : Int) := by omega
  have k7 : (0 : Int) ≤ (i : Int) + 1 := by omega
  have k8 : (0 : Int) ≤ (j : Int) + 1 := by omega
  clear hc1 hc2
  have x1 : m1 ≤ 400 := by have := len_rise a; have := hr1.out.1; have := HA.out.1; omega
  have x2 : m2 ≤ 400 := by have := len_rise b; have := hr2.out.1; have := HB.out.1; omega
  have FF := cut4 hr1.out hr2.out (Below.next (Below.next hb2 hb3) hb4) (Below.next hb3 hb4) hi hj x1 x2
  have BL : Hid ((catF (fA [] ((rise a).take i) ((rise a).drop (i + 1)) ((rise b).take j) ((rise b).drop (j + 1))) 4).length ≤ 1000) := by
    show _ ≤ _
    have z1 := hr1.out.1
    have z2 := hr2.out.1
    simp only [catF, fA, List.length_append, List.length_take, List.length_drop, List.length_nil, z1, z2]
    omega
  have RJ : Hid _ := res_join ha hb hiy.out hjy.out
  have B3 := Below.next (Below.next hb1 hb2) (Below.next hb3 hb4)
  clear HA HB hr1 hr2 hb1 hb2 hb3 hb4 hiy hjy ha hb hp hq
  by_cases h1 : c1 = i + 1 <;> by_cases h2 : c2 = j + 1
  · subst h1 h2
    go_region_with (first
      | (go_at_call 33; refine (concat_any _ _ _ _ _ _ (FF.out _ _ _ _ _ _ (by first | rfl | omega) (by first | rfl | omega) (by intro h; first | rfl | omega | cases h) (by intro h; first | rfl | omega) (by first | rfl | omega) (by first | rfl | omega) (by intro h; first | rfl | omega | cases h) (by intro h; first | rfl | omega))).mono ?_; rintro e w5 ⟨ao5, m5, c5, rfl, hr5, hb5⟩)
      | (go_at_call 22; refine (rising_any _ _ _ _ _ hr5.out (le_of_row hr5.out BL.out)).mono ?_; rintro e w6 ⟨ao6, m6, c6, rfl, hr6, hb6⟩))
    all_goals go_wp2
    all_goals go_ret2
    all_goals exact ⟨_, _, _, rfl, by show Row _ _ _ _ _; rw [← RJ.out.1]; exact hr6.out, Below.next ((B3.alloc B3.size _).drew.trans (hb5.mono (by have := B3.size; simp; omega))) hb6⟩
  · subst h1
    go_region_with (first
      | (go_at_call 33; refine (concat_any _ _ _ _ _ _ (FF.out _ _ _ _ _ _ (by first | rfl | omega) (by first | rfl | omega) (by intro h; first | rfl | omega | cases h) (by intro h; first | rfl | omega) (by first | rfl | omega) (by first | rfl | omega) (by intro h; first | rfl | omega | cases h) (by intro h; first | rfl | omega))).mono ?_; rintro e w5 ⟨ao5, m5, c5, rfl, hr5, hb5⟩)
      | (go_at_call 22; refine (rising_any _ _ _ _ _ hr5.out (le_of_row hr5.out BL.out)).mono ?_; rintro e w6 ⟨ao6, m6, c6, rfl, hr6, hb6⟩))
    all_goals go_wp2
    all_goals go_ret2
    all_goals exact ⟨_, _, _, rfl, by show Row _ _ _ _ _; rw [← RJ.out.1]; exact hr6.out, Below.next ((B3.alloc B3.size _).drew.trans (hb5.mono (by have := B3.size; simp; omega))) hb6⟩
  · subst h2
    go_region_with (first
      | (go_at_call 33; refine (concat_any _ _ _ _ _ _ (FF.out _ _ _ _ _ _ (by first | rfl | omega) (by first | rfl | omega) (by intro h; first | rfl | omega | cases h) (by intro h; first | rfl | omega) (by first | rfl | omega) (by first | rfl | omega) (by intro h; first | rfl | omega | cases h) (by intro h; first | rfl | omega))).mono ?_; rintro e w5 ⟨ao5, m5, c5, rfl, hr5, hb5⟩)
      | (go_at_call 22; refine (rising_any _ _ _ _ _ hr5.out (le_of_row hr5.out BL.out)).mono ?_; rintro e w6 ⟨ao6, m6, c6, rfl, hr6, hb6⟩))
    all_goals go_wp2
    all_goals go_ret2
    all_goals exact ⟨_, _, _, rfl, by show Row _ _ _ _ _; rw [← RJ.out.1]; exact hr6.out, Below.next ((B3.alloc B3.size _).drew.trans (hb5.mono (by have := B3.size; simp; omega))) hb6⟩
  · skip
    go_region_with (first
      | (go_at_call 33; refine (concat_any _ _ _ _ _ _ (FF.out _ _ _ _ _ _ (by first | rfl | omega) (by first | rfl | omega) (by intro h; first | rfl | omega | cases h) (by intro h; first | rfl | omega) (by first | rfl | omega) (by first | rfl | omega) (by intro h; first | rfl | omega | cases h) (by intro h; first | rfl | omega))).mono ?_; rintro e w5 ⟨ao5, m5, c5, rfl, hr5, hb5⟩)
      | (go_at_call 22; refine (rising_any _ _ _ _ _ hr5.out (le_of_row hr5.out BL.out)).mono ?_; rintro e w6 ⟨ao6, m6, c6, rfl, hr6, hb6⟩))
    all_goals go_wp2
    all_goals go_ret2
    all_goals exact ⟨_, _, _, rfl, by show Row _ _ _ _ _; rw [← RJ.out.1]; exact hr6.out, Below.next ((B3.alloc B3.size _).drew.trans (hb5.mono (by have := B3.size; simp; omega))) hb6⟩

end Go.Proofs.Ytgnoejcekbfkoaa
