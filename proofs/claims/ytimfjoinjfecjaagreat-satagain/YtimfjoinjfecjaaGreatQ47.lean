/-
  What an answer of Solve says: soundness, how many conflicts there can be, the examples.
  The chapter's example and others, as the statements ask them.
-/
import Derived.Test.YtimfjoinjfecjaaGreatQ46
import Derived.Test.YtimfjoinjfecjaaGreatQ42

namespace Go.Proofs.YtimfjoinjfecjaaGreat
open Go.RowKit Go.Maps
set_option linter.unusedVariables false

section
variable {al : Bool} {n : Nat} {l P : List (List Int)}

theorem fin_holds (f : Fin al n l P) {len : Nat} {B : Nat → Bool} (hL : ∀ c ∈ l, U.holdsF c len B = true) : ∀ (i : Nat) (c : List Int), P[i]? = some c → U.holdsF c len B = true := by
  intro i
  induction i using Nat.strongRecOn with
  | _ i ih =>
    intro c hc
    refine U.stp_holds (fun d hd => ?_) (f.ok i c hc).st
    rcases List.mem_append.1 hd with hd | hd
    · exact hL d hd
    · obtain ⟨j, hj⟩ := List.mem_iff_getElem?.1 hd
      have hjl := (List.getElem?_eq_some_iff.1 hj).1
      rw [List.length_take] at hjl
      rw [List.getElem?_take_of_lt (by omega)] at hj
      exact ih j (by omega) d hj

/-- Clauses that are refuted hold nowhere. -/
theorem fin_none (f : Fin al n l P) (hs : U.Stp (l ++ P) []) {len : Nat} {B : Nat → Bool} (hL : ∀ c ∈ l, U.holdsF c len B = true) : False := by
  have h := U.stp_holds (L := l ++ P) (c := []) (len := len) (B := B) (fun d hd => by
    rcases List.mem_append.1 hd with hd | hd
    · exact hL d hd
    · obtain ⟨j, hj⟩ := List.mem_iff_getElem?.1 hd
      exact fin_holds f hL j d hj) hs
  simp [U.holdsF] at h

/-! ### Clauses as numbers -/
def digF (c : List Int) (v : Nat) : Nat := if ((2 * v : Nat) : Int) ∈ c then 1 else if ((2 * v + 1 : Nat) : Int) ∈ c then 2 else 0
def keyF (c : List Int) : Nat → Nat
  | 0 => 0
  | m + 1 => keyF c m + digF c m * 3 ^ m

theorem dig_le (c : List Int) (v : Nat) : digF c v ≤ 2 := by
  unfold digF; split
  · omega
  · split <;> omega

theorem key_lt (c : List Int) : ∀ m, keyF c m < 3 ^ m := by
  intro m
  induction m with
  | zero => simp [keyF]
  | succ m ih =>
    have h := dig_le c m
    have h2 : digF c m * 3 ^ m ≤ 2 * 3 ^ m := Nat.mul_le_mul_right _ h
    rw [Nat.pow_succ]
    simp only [keyF]
    omega

theorem key_dig {c d : List Int} : ∀ m, keyF c m = keyF d m → ∀ v, v < m → digF c v = digF d v := by
  intro m
  induction m with
  | zero => intro _ v hv; omega
  | succ m ih =>
    intro h v hv
    have hc := key_lt c m
    have hd := key_lt d m
    have hp : 0 < 3 ^ m := Nat.pow_pos (by omega)
    simp only [keyF] at h
    have e1 : (keyF c m + digF c m * 3 ^ m) / 3 ^ m = digF c m := by rw [Nat.add_mul_div_right _ _ hp, Nat.div_eq_of_lt hc, Nat.zero_add]
    have e2 : (keyF d m + digF d m * 3 ^ m) / 3 ^ m = digF d m := by rw [Nat.add_mul_div_right _ _ hp, Nat.div_eq_of_lt hd, Nat.zero_add]
    have e3 : digF c m = digF d m := by rw [← e1, ← e2, h]
    rw [e3] at h
    by_cases hvm : v = m
    · subst hvm; exact e3
    · exact ih (by omega) v (by omega)

theorem mem_dig {c : List Int} (nt : ∀ y ∈ c, U.notF y ∉ c) {v : Nat} : (((2 * v : Nat) : Int) ∈ c ↔ digF c v = 1) ∧ (((2 * v + 1 : Nat) : Int) ∈ c ↔ digF c v = 2) := by
  have hn : U.notF ((2 * v : Nat) : Int) = ((2 * v + 1 : Nat) : Int) := by
    unfold U.notF; rw [if_neg (by omega), if_neg (by omega)]; omega
  unfold digF
  by_cases h : ((2 * v : Nat) : Int) ∈ c
  · have := nt _ h
    rw [hn] at this
    rw [if_pos h]
    exact ⟨⟨fun _ => rfl, fun _ => h⟩, ⟨fun q => absurd q this, fun q => by omega⟩⟩
  · rw [if_neg h]
    by_cases h2 : ((2 * v + 1 : Nat) : Int) ∈ c
    · rw [if_pos h2]
      exact ⟨⟨fun q => absurd q h, fun q => by omega⟩, ⟨fun _ => rfl, fun _ => h2⟩⟩
    · rw [if_neg h2]
      exact ⟨⟨fun q => absurd q h, fun q => by omega⟩, ⟨fun q => absurd q h2, fun q => by omega⟩⟩

theorem key_same {c d : List Int} (hc : ∀ y ∈ c, 0 ≤ y ∧ y < 2 * (n : Int)) (hd : ∀ y ∈ d, 0 ≤ y ∧ y < 2 * (n : Int)) (nc : ∀ y ∈ c, U.notF y ∉ c) (nd : ∀ y ∈ d, U.notF y ∉ d) (h : keyF c n = keyF d n) : Sames c d := by
  have key : ∀ y : Int, 0 ≤ y → y < 2 * (n : Int) → (y ∈ c ↔ y ∈ d) := fun y y0 y1 => by
    obtain ⟨v, hv⟩ : ∃ v : Nat, v = y.toNat / 2 := ⟨_, rfl⟩
    have e := key_dig n h v (by omega)
    obtain ⟨a1, a2⟩ := mem_dig nc (v := v)
    obtain ⟨b1, b2⟩ := mem_dig nd (v := v)
    rcases (show y = ((2 * v : Nat) : Int) ∨ y = ((2 * v + 1 : Nat) : Int) by omega) with q | q
    · rw [q, a1, b1, e]
    · rw [q, a2, b2, e]
  intro y
  constructor
  · intro hy; exact (key y (hc y hy).1 (hc y hy).2).1 hy
  · intro hy; exact (key y (hd y hy).1 (hd y hy).2).2 hy

/-- No clause is learned twice. -/
theorem fin_ds (f : Fin true n l P) {i j : Nat} {c d : List Int} (hij : i < j) (hi : P[i]? = some c) (hj : P[j]? = some d) : ¬ Sames c d :=
  f.ds rfl (l.length + i) (l.length + j) c d (by omega) (by omega) (by rw [List.getElem?_append_right (by omega), Nat.add_sub_cancel_left]; exact hi) (by rw [List.getElem?_append_right (by omega), Nat.add_sub_cancel_left]; exact hj)

/-- None of those that were there is learned. -/
theorem fin_old (f : Fin true n l P) {i j : Nat} {c d : List Int} (hi : l[i]? = some c) (hj : P[j]? = some d) : ¬ Sames c d := by
  have hil := (List.getElem?_eq_some_iff.1 hi).1
  exact f.ds rfl i (l.length + j) c d (by omega) (by omega) (by rw [List.getElem?_append_left hil]; exact hi) (by rw [List.getElem?_append_right (by omega), Nat.add_sub_cancel_left]; exact hj)

theorem fin_len (f : Fin true n l P) : P.length ≤ 3 ^ n := by
  have h := pig (3 ^ n) (P.map (fun c => keyF c n)) (by
    unfold List.Nodup
    rw [List.pairwise_map, List.pairwise_iff_getElem]
    intro i j hi hj hij e
    have c1 := f.ok i _ (List.getElem?_eq_getElem hi)
    have c2 := f.ok j _ (List.getElem?_eq_getElem hj)
    exact fin_ds f hij (List.getElem?_eq_getElem hi) (List.getElem?_eq_getElem hj) (key_same c1.nn c2.nn c1.nt c2.nt e)) (fun x hx => by
    obtain ⟨c, _, rfl⟩ := List.mem_map.1 hx
    exact key_lt c n)
  rw [List.length_map] at h
  exact h
end

/-! ### The examples -/
def exA : List (List Int) := [[0], [1]]
def exB : List (List Int) := [[0, 2], [1, 2], [0, 3]]
def exC : List (List Int) := [[0, 2], [0, 3], [1, 2], [1, 3]]

theorem sol_a {w w' : World} {r : Value} (h : SolEnd true 1 exA 5 w r w') : ∃ a k cp cf, r = .agg #[.int .i64 2, .slice none 0 0, .int .i64 ((cf : Nat) : Int), .slice a k cp] ∧ Hid (Below w.heap.size w w') := by
  rcases h with ⟨tb, cf, tr, rfl, hb, _, hm⟩ | ⟨a, k, cp, cf, P, rfl, hb, _, _⟩ | ⟨P, rfl, hb, hp⟩
  · exfalso
    obtain ⟨_, _, h3⟩ := hm.out
    obtain ⟨x, hx, h4, _⟩ := h3 [0] (by simp [exA])
    obtain ⟨y, hy, h5, _⟩ := h3 [1] (by simp [exA])
    simp at hx hy
    subst hx hy
    simp [vl] at h4 h5
    rw [h4] at h5
    simp at h5
  · exact ⟨a, k, cp, cf, rfl, hb⟩
  · exfalso
    have h1 := fin_len hp.out.2
    have h2 := hp.out.1
    simp at h1
    omega

theorem bothT {x : Int} (h : U.holF x 2 (fun _ => true) = true) (h0 : 0 ≤ x) (h4 : x < 4) : x = 0 ∨ x = 2 := by
  rcases (show x = 0 ∨ x = 1 ∨ x = 2 ∨ x = 3 by omega) with rfl | rfl | rfl | rfl
  · exact .inl rfl
  · exact absurd h (by decide)
  · exact .inr rfl
  · exact absurd h (by decide)

theorem sames4 {c d : List Int} (hc : ∀ y ∈ c, 0 ≤ y ∧ y < 2 * ((2 : Nat) : Int)) (hd : ∀ y ∈ d, 0 ≤ y ∧ y < 4) (h0 : (0 : Int) ∈ d ↔ (0 : Int) ∈ c) (h1 : (1 : Int) ∈ d ↔ (1 : Int) ∈ c) (h2 : (2 : Int) ∈ d ↔ (2 : Int) ∈ c) (h3 : (3 : Int) ∈ d ↔ (3 : Int) ∈ c) : Sames d c := by
  have key : ∀ y : Int, 0 ≤ y → y < 4 → (y ∈ d ↔ y ∈ c) := fun y y0 y4 => by
    rcases (show y = 0 ∨ y = 1 ∨ y = 2 ∨ y = 3 by omega) with rfl | rfl | rfl | rfl
    · exact h0
    · exact h1
    · exact h2
    · exact h3
  intro y
  constructor
  · intro hy; exact (key y (hd y hy).1 (hd y hy).2).1 hy
  · intro hy
    have := hc y hy
    exact (key y (by omega) (by omega)).2 hy

theorem learn_b {P : List (List Int)} (f : Fin true 2 exB P) {i : Nat} {c : List Int} (hi : P[i]? = some c) : Sames [0] c ∨ Sames [2] c := by
  have hL : ∀ c ∈ exB, U.holdsF c 2 (fun _ => true) = true := by decide
  have hh := fin_holds f hL i c hi
  have lc := f.ok i c hi
  obtain ⟨x, hx, hx2⟩ := List.any_eq_true.1 hh
  have hxn := lc.nn x hx
  have h02 : (0 : Int) ∈ c ∨ (2 : Int) ∈ c := by
    rcases bothT hx2 (by omega) (by omega) with rfl | rfl
    · exact .inl hx
    · exact .inr hx
  have n01 : (0 : Int) ∈ c → (1 : Int) ∉ c := fun h => lc.nt 0 h
  have n23 : (2 : Int) ∈ c → (3 : Int) ∉ c := fun h => lc.nt 2 h
  have o1 : ¬ Sames [0, 2] c := fin_old f (i := 0) rfl hi
  have o2 : ¬ Sames [1, 2] c := fin_old f (i := 1) rfl hi
  have o3 : ¬ Sames [0, 3] c := fin_old f (i := 2) rfl hi
  by_cases c0 : (0 : Int) ∈ c
  · have c1 := n01 c0
    by_cases c2 : (2 : Int) ∈ c
    · exact absurd (sames4 lc.nn (by decide) (by simp [c0]) (by simp [c1]) (by simp [c2]) (by simp [n23 c2])) o1
    · by_cases c3 : (3 : Int) ∈ c
      · exact absurd (sames4 lc.nn (by decide) (by simp [c0]) (by simp [c1]) (by simp [c2]) (by simp [c3])) o3
      · exact .inl (sames4 lc.nn (by decide) (by simp [c0]) (by simp [c1]) (by simp [c2]) (by simp [c3]))
  · have c2 : (2 : Int) ∈ c := h02.resolve_left c0
    by_cases c1 : (1 : Int) ∈ c
    · exact absurd (sames4 lc.nn (by decide) (by simp [c0]) (by simp [c1]) (by simp [c2]) (by simp [n23 c2])) o2
    · exact .inr (sames4 lc.nn (by decide) (by simp [c0]) (by simp [c1]) (by simp [c2]) (by simp [n23 c2]))

theorem Sames.two {a c d : List Int} (h : Sames a c) (g : Sames a d) : Sames c d := fun x => (h x).symm.trans (g x)

theorem sol_b {w w' : World} {r : Value} (h : SolEnd true 2 exB 5 w r w') : ∃ (tb cf : Nat), r = .agg #[.int .i64 1, .slice (some ⟨tb, 0, none⟩) 2 2, .int .i64 cf, .slice none 0 0] ∧ Hid (Below w.heap.size w w') ∧ Hid (w'.heap[tb]? = some (.cells #[.bool true, .bool true] 4 (0, 0))) := by
  rcases h with ⟨tb, cf, tr, rfl, hb, ht, hm⟩ | ⟨a, k, cp, cf, P, rfl, hb, _, hp⟩ | ⟨P, rfl, hb, hp⟩
  · refine ⟨tb, cf, rfl, hb, hid ?_⟩
    obtain ⟨h1, _, h3⟩ := hm.out
    obtain ⟨a, b, rfl⟩ : ∃ a b, tr = [a, b] := by
      match tr, h1 with
      | [a, b], _ => exact ⟨a, b, rfl⟩
    obtain ⟨x, hx, h4, _⟩ := h3 [0, 2] (by simp [exB])
    obtain ⟨y, hy, h5, _⟩ := h3 [1, 2] (by simp [exB])
    obtain ⟨z, hz, h6, _⟩ := h3 [0, 3] (by simp [exB])
    have hab : a = true ∧ b = true := by
      simp at hx hy hz
      rcases hx with rfl | rfl <;> rcases hy with rfl | rfl <;> rcases hz with rfl | rfl <;> simp [vl] at h4 h5 h6 <;> simp_all
    rw [hab.1, hab.2] at ht
    exact ht.out
  · exfalso
    obtain ⟨_, _, f, hs⟩ := hp.out
    exact fin_none f hs (len := 2) (B := fun _ => true) (by decide)
  · exfalso
    obtain ⟨hl, f⟩ := hp.out
    obtain ⟨c0, e0⟩ : ∃ c, P[0]? = some c := ⟨_, List.getElem?_eq_getElem (by omega)⟩
    obtain ⟨c1, e1⟩ : ∃ c, P[1]? = some c := ⟨_, List.getElem?_eq_getElem (by omega)⟩
    obtain ⟨c2, e2⟩ : ∃ c, P[2]? = some c := ⟨_, List.getElem?_eq_getElem (by omega)⟩
    have n01 := fin_ds f (show 0 < 1 by omega) e0 e1
    have n02 := fin_ds f (show 0 < 2 by omega) e0 e2
    have n12 := fin_ds f (show 1 < 2 by omega) e1 e2
    rcases learn_b f e0 with s0 | s0 <;> rcases learn_b f e1 with s1 | s1
    · exact n01 (s0.two s1)
    · rcases learn_b f e2 with s2 | s2
      · exact n02 (s0.two s2)
      · exact n12 (s1.two s2)
    · rcases learn_b f e2 with s2 | s2
      · exact n12 (s1.two s2)
      · exact n02 (s0.two s2)
    · exact n01 (s0.two s1)

theorem four_mem {c : List Int} (h : c ∈ exC) : c = [0, 2] ∨ c = [0, 3] ∨ c = [1, 2] ∨ c = [1, 3] := by simpa [exC] using h

theorem ex_c : ¬ U.Stp exC [] := by
  refine (U.closed_all (Now := fun _ => False) (fun x hx => by simp at hx) (fun x hx => hx.elim) (fun x hx => hx.elim) fun c hc => .inr ?_).2
  rcases four_mem hc with rfl | rfl | rfl | rfl
  · exact ⟨0, by simp, 2, by simp, by omega, by omega, by omega, id, id⟩
  · exact ⟨0, by simp, 3, by simp, by omega, by omega, by omega, id, id⟩
  · exact ⟨1, by simp, 2, by simp, by omega, by omega, by omega, id, id⟩
  · exact ⟨1, by simp, 3, by simp, by omega, by omega, by omega, id, id⟩

theorem sol_c {w w' : World} {r : Value} (h : SolEnd true 2 exC 0 w r w') : r = .agg #[.int .i64 0, .slice none 0 0, .int .i64 0, .slice none 0 0] ∧ Hid (Below w.heap.size w w') := by
  rcases h with ⟨tb, cf, tr, rfl, hb, ht, hm⟩ | ⟨a, k, cp, cf, P, rfl, hb, _, hp⟩ | ⟨P, rfl, hb, hp⟩
  · exfalso
    obtain ⟨h1, _, h3⟩ := hm.out
    obtain ⟨a, b, rfl⟩ : ∃ a b, tr = [a, b] := by
      match tr, h1 with
      | [a, b], _ => exact ⟨a, b, rfl⟩
    obtain ⟨x, hx, h4, _⟩ := h3 [0, 2] (by simp [exC])
    obtain ⟨y, hy, h5, _⟩ := h3 [0, 3] (by simp [exC])
    obtain ⟨z, hz, h6, _⟩ := h3 [1, 2] (by simp [exC])
    obtain ⟨u, hu, h7, _⟩ := h3 [1, 3] (by simp [exC])
    simp at hx hy hz hu
    rcases hx with rfl | rfl <;> rcases hy with rfl | rfl <;> rcases hz with rfl | rfl <;> rcases hu with rfl | rfl <;> simp [vl] at h4 h5 h6 h7 <;> simp_all
  · exfalso
    obtain ⟨h1, h2, f, hs⟩ := hp.out
    have : P = [] := List.eq_nil_of_length_eq_zero (by omega)
    subst this
    rw [List.append_nil] at hs
    exact ex_c hs
  · exact ⟨rfl, hb⟩
end Go.Proofs.YtimfjoinjfecjaaGreat

namespace Go.Proofs.YtimfjoinjfecjaaGreat
open Go.RowKit Go.Maps
set_option linter.unusedVariables false

theorem rowL (w : World) (xs : List Int) (hx : xs.all (fun x => decide (-9223372036854775808 ≤ x ∧ x ≤ 9223372036854775807)) = true) (hl : xs.length ≤ 1000) : U.Row (w.alloc (.cells (xs.map (Value.int .i64)).toArray 3)) (some ⟨w.heap.size, 0, none⟩) xs.length xs.length xs := by
  refine ⟨rfl, Nat.le_refl _, by unfold maxLen; omega, fun h => by simp at h, fun x hx2 => by simpa using List.all_eq_true.1 hx x hx2, fun _ => ⟨_, _, rfl, fun j hj => ?_⟩⟩
  rw [Nat.zero_add, cell_of (new_same w _)]
  simp [hj]

theorem gv1 {w : World} {a : Option Addr} {n c : Nat} {xs : List Int} (h : U.Row w a n c xs) : GV w [.slice a n c] [xs] := ⟨rfl, fun j hj => by
  obtain rfl : j = 0 := by simp at hj; omega
  exact ⟨a, n, c, rfl, h⟩⟩

theorem gridL (w : World) (vs : List Value) (xss : List (List Int)) (h : GV w vs xss) (hl : vs.length ≤ 1000) : U.Grid (w.alloc (.cells vs.toArray 42)) (some ⟨w.heap.size, 0, none⟩) vs.length vs.length xss := by
  refine ⟨h.1.symm, Nat.le_refl _, by unfold maxLen; omega, fun h => by simp at h, fun _ => ⟨_, _, rfl, fun j hj => ?_⟩⟩
  obtain ⟨a, m, c, e, r⟩ := h.2 j hj
  refine ⟨a, m, c, ?_, r.keep (alloc_below w _)⟩
  rw [Nat.zero_add, cell_of (new_same w _)]
  simpa using e

theorem gridA (w : World) : U.Grid (((w.alloc (.cells #[.int .i64 0] 3)).alloc (.cells #[.int .i64 1] 3)).alloc (.cells #[.slice (some ⟨w.heap.size, 0, none⟩) 1 1, .slice (some ⟨w.heap.size + 1, 0, none⟩) 1 1] 42)) (some ⟨w.heap.size + 1 + 1, 0, none⟩) 2 2 exA := by
  have r0 := (rowL w [0] (by decide) (by decide)).keep (alloc_below _ (.cells #[.int .i64 1] 3))
  have r1 := rowL (w.alloc (.cells #[.int .i64 0] 3)) [1] (by decide) (by decide)
  rw [World.size_alloc] at r1
  have g := gridL _ _ _ ((gv1 r0).app (gv1 r1)) (by simp)
  rw [World.size_alloc, World.size_alloc] at g
  exact g

theorem gridB (w : World) : U.Grid ((((w.alloc (.cells #[.int .i64 0, .int .i64 2] 3)).alloc (.cells #[.int .i64 1, .int .i64 2] 3)).alloc (.cells #[.int .i64 0, .int .i64 3] 3)).alloc (.cells #[.slice (some ⟨w.heap.size, 0, none⟩) 2 2, .slice (some ⟨w.heap.size + 1, 0, none⟩) 2 2, .slice (some ⟨w.heap.size + 1 + 1, 0, none⟩) 2 2] 42)) (some ⟨w.heap.size + 1 + 1 + 1, 0, none⟩) 3 3 exB := by
  have r0 := ((rowL w [0, 2] (by decide) (by decide)).keep (alloc_below _ (.cells #[.int .i64 1, .int .i64 2] 3))).keep (alloc_below _ (.cells #[.int .i64 0, .int .i64 3] 3))
  have r1 := (rowL (w.alloc (.cells #[.int .i64 0, .int .i64 2] 3)) [1, 2] (by decide) (by decide)).keep (alloc_below _ (.cells #[.int .i64 0, .int .i64 3] 3))
  have r2 := rowL ((w.alloc (.cells #[.int .i64 0, .int .i64 2] 3)).alloc (.cells #[.int .i64 1, .int .i64 2] 3)) [0, 3] (by decide) (by decide)
  rw [World.size_alloc] at r1
  rw [World.size_alloc, World.size_alloc] at r2
  have g := gridL _ _ _ ((gv1 r0).app ((gv1 r1).app (gv1 r2))) (by simp)
  rw [World.size_alloc, World.size_alloc, World.size_alloc] at g
  exact g

theorem gridC (w : World) : U.Grid (((((w.alloc (.cells #[.int .i64 0, .int .i64 2] 3)).alloc (.cells #[.int .i64 0, .int .i64 3] 3)).alloc (.cells #[.int .i64 1, .int .i64 2] 3)).alloc (.cells #[.int .i64 1, .int .i64 3] 3)).alloc (.cells #[.slice (some ⟨w.heap.size, 0, none⟩) 2 2, .slice (some ⟨w.heap.size + 1, 0, none⟩) 2 2, .slice (some ⟨w.heap.size + 1 + 1, 0, none⟩) 2 2, .slice (some ⟨w.heap.size + 1 + 1 + 1, 0, none⟩) 2 2] 42)) (some ⟨w.heap.size + 1 + 1 + 1 + 1, 0, none⟩) 4 4 exC := by
  have r0 := (((rowL w [0, 2] (by decide) (by decide)).keep (alloc_below _ (.cells #[.int .i64 0, .int .i64 3] 3))).keep (alloc_below _ (.cells #[.int .i64 1, .int .i64 2] 3))).keep (alloc_below _ (.cells #[.int .i64 1, .int .i64 3] 3))
  have r1 := ((rowL (w.alloc (.cells #[.int .i64 0, .int .i64 2] 3)) [0, 3] (by decide) (by decide)).keep (alloc_below _ (.cells #[.int .i64 1, .int .i64 2] 3))).keep (alloc_below _ (.cells #[.int .i64 1, .int .i64 3] 3))
  have r2 := (rowL ((w.alloc (.cells #[.int .i64 0, .int .i64 2] 3)).alloc (.cells #[.int .i64 0, .int .i64 3] 3)) [1, 2] (by decide) (by decide)).keep (alloc_below _ (.cells #[.int .i64 1, .int .i64 3] 3))
  have r3 := rowL (((w.alloc (.cells #[.int .i64 0, .int .i64 2] 3)).alloc (.cells #[.int .i64 0, .int .i64 3] 3)).alloc (.cells #[.int .i64 1, .int .i64 2] 3)) [1, 3] (by decide) (by decide)
  rw [World.size_alloc] at r1
  rw [World.size_alloc, World.size_alloc] at r2
  rw [World.size_alloc, World.size_alloc, World.size_alloc] at r3
  have g := gridL _ _ _ ((gv1 r0).app ((gv1 r1).app ((gv1 r2).app (gv1 r3)))) (by simp)
  rw [World.size_alloc, World.size_alloc, World.size_alloc, World.size_alloc] at g
  exact g

theorem gridD (w : World) : U.Grid ((w.alloc (.cells #[.int .i64 2] 3)).alloc (.cells #[.slice (some ⟨w.heap.size, 0, none⟩) 1 1] 42)) (some ⟨w.heap.size + 1, 0, none⟩) 1 1 [[2]] := by
  have r0 := rowL w [2] (by decide) (by decide)
  have g := gridL _ _ _ (gv1 r0) (by simp)
  rw [World.size_alloc] at g
  exact g

theorem gridN (w : World) : U.Grid w none 0 0 [] := ⟨rfl, Nat.le_refl _, by unfold maxLen; omega, fun _ => rfl, fun h => by omega⟩

section
variable {W : World} {ao : Option Addr} {cap : Nat}

theorem call_a (hl : U.Grid W ao 2 cap exA) : Calls Tryz.prog 9 #[.int .i64 1, .slice ao 2 cap, .int .i64 5] W fun e w' => ∃ a k cp cf, e = .returned (.tuple #[.agg #[.int .i64 2, .slice none 0 0, .int .i64 ((cf : Nat) : Int), .slice a k cp], .int .i64 0]) ∧ Hid (Below W.heap.size W w') := by
  refine (solve_good (al := true) (n := 1) (bud := 5) ao 2 cap hl (by decide) (by decide) (by decide) (by decide) (by decide) (by decide) (fun c w0 _ _ _ => anew_plain (.inr (by decide)) (by decide))).mono fun e w' h => ?_
  obtain ⟨r, rfl, h⟩ := h
  obtain ⟨a, k, cp, cf, rfl, hb⟩ := sol_a h
  exact ⟨a, k, cp, cf, rfl, hb⟩

theorem call_b (hl : U.Grid W ao 3 cap exB) : Calls Tryz.prog 9 #[.int .i64 2, .slice ao 3 cap, .int .i64 5] W fun e w' => ∃ tb cf : Nat, e = .returned (.tuple #[.agg #[.int .i64 1, .slice (some ⟨tb, 0, none⟩) 2 2, .int .i64 cf, .slice none 0 0], .int .i64 0]) ∧ Hid (Below W.heap.size W w') ∧ Hid (w'.heap[tb]? = some (.cells #[.bool true, .bool true] 4 (0, 0))) := by
  refine (solve_good (al := true) (n := 2) (bud := 5) ao 3 cap hl (by decide) (by decide) (by decide) (by decide) (by decide) (by decide) (fun c w0 _ _ _ => anew_plain (.inr (by decide)) (by decide))).mono fun e w' h => ?_
  obtain ⟨r, rfl, h⟩ := h
  obtain ⟨tb, cf, rfl, hb, ht⟩ := sol_b h
  exact ⟨tb, cf, rfl, hb, ht⟩

theorem call_c (hl : U.Grid W ao 4 cap exC) : Calls Tryz.prog 9 #[.int .i64 2, .slice ao 4 cap, .int .i64 0] W fun e w' => e = .returned (.tuple #[.agg #[.int .i64 0, .slice none 0 0, .int .i64 0, .slice none 0 0], .int .i64 0]) ∧ Hid (Below W.heap.size W w') := by
  refine (solve_good (al := true) (n := 2) (bud := 0) ao 4 cap hl (by decide) (by decide) (by decide) (by decide) (by decide) (by decide) (fun c w0 _ _ _ => anew_plain (.inr (by decide)) (by decide))).mono fun e w' h => ?_
  obtain ⟨r, rfl, h⟩ := h
  obtain ⟨rfl, hb⟩ := sol_c h
  exact ⟨rfl, hb⟩

theorem call_d (hl : U.Grid W ao 1 cap [[2]]) : Calls Tryz.prog 9 #[.int .i64 1, .slice ao 1 cap, .int .i64 5] W fun e w' => e = .returned (.tuple #[.agg #[.int .i64 0, .slice none 0 0, .int .i64 0, .slice none 0 0], .int .i64 10]) ∧ Hid (Below W.heap.size W w') := solve_bad 1 5 ao 1 cap hl (by decide)

theorem call_e : Calls Tryz.prog 9 #[.int .i64 1, .slice none 0 0, .int .i64 (-1)] W fun e w' => e = .returned (.tuple #[.agg #[.int .i64 0, .slice none 0 0, .int .i64 0, .slice none 0 0], .int .i64 1]) ∧ Hid (Below W.heap.size W w') := solve_neg 1 (-1) none 0 0 (gridN W) (by decide) (by decide)
end

/-- What stands of the answers. -/
theorem keep_res {w w1 : World} {b : Nat} {o : Obj} (h : Hid (w.heap[b]? = some o)) (bl : Below w.heap.size w w1) : Hid (w1.heap[b]? = some o) := hid (old_blk bl h.out)

theorem bools_blk {w : World} {b n : Nat} {tr : List Bool} (h : w.heap[b]? = some (.cells (tr.map Value.bool).toArray 4 (0, 0))) (hl : tr.length = n) (hn : n ≤ 1000000) : U.IsBools w (some ⟨b, 0, none⟩) n n (fun i => tr.getD i false) := by
  refine .inr ⟨_, rfl, Nat.le_refl _, by unfold maxLen; omega, fun i hi => ?_⟩
  have hc : w.cell? ⟨b, i, none⟩ = some (.bool (tr.getD i false)) := by
    rw [cell_of h]; simp [hl, hi]
  rw [← hc]
  congr 1
  by_cases h0 : i = 0
  · subst h0; rfl
  · simp [Addr.add, h0]

theorem bel3 {w w1 : World} {o1 o2 o3 o4 : Obj} (b : Below (((w.alloc o1).alloc o2).alloc o3).heap.size (((w.alloc o1).alloc o2).alloc o3) w1) : Below w.heap.size w (w1.alloc o4) :=
  Below.next (Below.next (Below.next (Below.next (alloc_below _ _) (alloc_below _ _)) (alloc_below _ _)) b) (alloc_below _ _)
theorem bel1 {w w1 : World} {o4 : Obj} (b : Below w.heap.size w w1) : Below w.heap.size w (w1.alloc o4) := Below.next b (alloc_below _ _)
theorem bel2 {w w1 : World} {o1 o2 o4 : Obj} (b : Below ((w.alloc o1).alloc o2).heap.size ((w.alloc o1).alloc o2) w1) : Below w.heap.size w (w1.alloc o4) :=
  Below.next (Below.next (Below.next (alloc_below _ _) (alloc_below _ _)) b) (alloc_below _ _)
theorem bel4 {w w1 : World} {o1 o2 o3 o5 o4 : Obj} (b : Below ((((w.alloc o1).alloc o2).alloc o3).alloc o5).heap.size ((((w.alloc o1).alloc o2).alloc o3).alloc o5) w1) : Below w.heap.size w (w1.alloc o4) :=
  Below.next (Below.next (Below.next (Below.next (Below.next (alloc_below _ _) (alloc_below _ _)) (alloc_below _ _)) (alloc_below _ _)) b) (alloc_below _ _)
theorem bel5 {w w1 : World} {o1 o2 o3 o5 o6 o4 : Obj} (b : Below (((((w.alloc o1).alloc o2).alloc o3).alloc o5).alloc o6).heap.size (((((w.alloc o1).alloc o2).alloc o3).alloc o5).alloc o6) w1) : Below w.heap.size w (w1.alloc o4) :=
  Below.next (Below.next (Below.next (Below.next (Below.next (Below.next (alloc_below _ _) (alloc_below _ _)) (alloc_below _ _)) (alloc_below _ _)) (alloc_below _ _)) b) (alloc_below _ _)

set_option maxRecDepth 20000 in
set_option maxHeartbeats 8000000 in
theorem awake_is (w : World) : Calls Tryz.prog 8 #[] w fun e w' => e = .returned (.bool true) ∧ Hid (Below w.heap.size w w') := by
  go_enter Tryz.func8, Tryz.ntmps8
  go_upto_region 1 with fail
  go_cut [1, 2] from 11 to 18 (fun v1 v2 wz => ∃ (b1 : Nat) (a : Option Addr) (k cp cf : Nat), v1 = .pointer (some ⟨b1, 0, none⟩) ∧ v2 = .int .i64 0 ∧ Hid (wz.heap[b1]? = some (.cells #[.int .i64 2, .slice none 0 0, .int .i64 cf, .slice a k cp] 27 (0, 0))) ∧ Hid (Below w.heap.size w wz))
  case first =>
    have HG := hid (gridA w)
    go_wp2_with (first
      | (go_at_call 9; with_reducible (refine (call_a HG.out).mono ?_); rintro e w1 ⟨a, k, cp, cf, rfl, b1⟩))
    go_meet
    exact ⟨_, a, k, cp, cf, rfl, rfl, hid (new_same w1 _), hid (bel3 b1.out)⟩
  case rest =>
    obtain ⟨r1, a1, k1, cp1, cf1, rfl, rfl, R1, B1⟩ := hcut
    go_upto_region 2 with fail
    go_cut [3, 4] from 18 to 26 (fun v1 v2 wz => ∃ (r2 tb cf : Nat), v1 = .pointer (some ⟨r2, 0, none⟩) ∧ v2 = .int .i64 0 ∧ Hid (wz.heap[r2]? = some (.cells #[.int .i64 1, .slice (some ⟨tb, 0, none⟩) 2 2, .int .i64 cf, .slice none 0 0] 27 (0, 0))) ∧ Hid (wz.heap[tb]? = some (.cells #[.bool true, .bool true] 4 (0, 0))) ∧ Hid (Below wc.heap.size wc wz))
    case first =>
      have HG := hid (gridB wc)
      go_wp2_with (first
        | (go_at_call 9; with_reducible (refine (call_b HG.out).mono ?_); rintro e w1 ⟨tb, cf, rfl, b1, t1⟩))
      go_meet
      exact ⟨_, tb, cf, rfl, rfl, hid (new_same w1 _), hid (old_blk (alloc_below _ _) t1.out), hid (bel4 b1.out)⟩
    case rest =>
      obtain ⟨r2, tb, cf2, rfl, rfl, R2, T2, B2⟩ := hcut
      have R1' := keep_res R1 B2.out
      have B2' := hid (Below.next B1.out B2.out)
      clear R1 B1 B2
      go_upto_region 3 with fail
      go_cut [5, 6] from 26 to 35 (fun v1 v2 wz => ∃ (r3 : Nat), v1 = .pointer (some ⟨r3, 0, none⟩) ∧ v2 = .int .i64 0 ∧ Hid (wz.heap[r3]? = some (.cells #[.int .i64 0, .slice none 0 0, .int .i64 0, .slice none 0 0] 27 (0, 0))) ∧ Hid (Below wc.heap.size wc wz))
      case first =>
        have HG := hid (gridC wc)
        go_wp2_with (first
          | (go_at_call 9; with_reducible (refine (call_c HG.out).mono ?_); rintro e w1 ⟨rfl, b1⟩))
        go_meet
        exact ⟨_, rfl, rfl, hid (new_same w1 _), hid (bel5 b1.out)⟩
      case rest =>
        obtain ⟨r3, rfl, rfl, R3, B3⟩ := hcut
        have R1 := keep_res R1' B3.out
        have R2' := keep_res R2 B3.out
        have T2' := keep_res T2 B3.out
        have B3' := hid (Below.next B2'.out B3.out)
        clear R1' R2 T2 B2' B3
        go_upto_region 4 with fail
        go_cut [7, 8] from 35 to 41 (fun v1 v2 wz => ∃ (r4 : Nat), v1 = .pointer (some ⟨r4, 0, none⟩) ∧ v2 = .int .i64 10 ∧ Hid (Below wc.heap.size wc wz))
        case first =>
          have HG := hid (gridD wc)
          go_wp2_with (first
            | (go_at_call 9; with_reducible (refine (call_d HG.out).mono ?_); rintro e w1 ⟨rfl, b1⟩))
          go_meet
          exact ⟨_, rfl, rfl, hid (bel2 b1.out)⟩
        case rest =>
          obtain ⟨r4, rfl, rfl, B4⟩ := hcut
          have R1' := keep_res R1 B4.out
          have R2 := keep_res R2' B4.out
          have T2 := keep_res T2' B4.out
          have R3' := keep_res R3 B4.out
          have B4' := hid (Below.next B3'.out B4.out)
          clear R1 R2' T2' R3 B3' B4
          go_upto_region 5 with fail
          go_cut [9, 10] from 41 to 45 (fun v1 v2 wz => ∃ (r5 : Nat), v1 = .pointer (some ⟨r5, 0, none⟩) ∧ v2 = .int .i64 1 ∧ Hid (Below wc.heap.size wc wz))
          case first =>
            go_wp2_with (first
              | (go_at_call 9; with_reducible (refine call_e.mono ?_); rintro e w1 ⟨rfl, b1⟩))
            go_meet
            exact ⟨_, rfl, rfl, hid (bel1 b1.out)⟩
          case rest =>
            obtain ⟨r5, rfl, rfl, B5⟩ := hcut
            have R1 := keep_res R1' B5.out
            have R2' := keep_res R2 B5.out
            have T2' := keep_res T2 B5.out
            have R3 := keep_res R3' B5.out
            have B5' := hid (Below.next B4'.out B5.out)
            clear R1' R2 T2 R3' B4' B5
            have z1 : wc.cell? ⟨r1, 0, none⟩ = some (.int .i64 2) := cell_of R1.out
            have z2 : wc.cell? ⟨r2, 0, none⟩ = some (.int .i64 1) := cell_of R2'.out
            have z3 : wc.cell? ⟨r2, 1, none⟩ = some (.slice (some ⟨tb, 0, none⟩) 2 2) := cell_of R2'.out
            have z4 : wc.cell? ⟨r3, 0, none⟩ = some (.int .i64 0) := cell_of R3.out
            have z5 : wc.cell? ⟨r3, 2, none⟩ = some (.int .i64 0) := cell_of R3.out
            have l2 := blk_lt R2'.out
            have l3 := blk_lt R3.out
            have HX := hid (alloc_below wc (.cells #[.bool true, .bool true] 4))
            have HB1 : Hid (U.IsBools (wc.alloc (.cells #[.bool true, .bool true] 4)) (some ⟨tb, 0, none⟩) 2 2 (fun i => [true, true].getD i false)) := hid (bools_blk (tr := [true, true]) (old_blk (alloc_below _ _) T2'.out) rfl (by decide))
            have HB2 : Hid (U.IsBools (wc.alloc (.cells #[.bool true, .bool true] 4)) (some ⟨wc.heap.size, 0, none⟩) 2 2 (fun i => [true, true].getD i false)) := hid (bools_blk (tr := [true, true]) (new_same wc _) rfl (by decide))
            go_wp2_with (first
              | (go_at_call 14; with_reducible (refine (U.bools_same _ _ _ _ _ _ _ HB1.out HB2.out (by decide)).mono ?_); rintro e w1 ⟨rfl, b1⟩; have q1 := bl_cell b1 (bl_cell HX.out z4); have q2 := bl_cell b1 (bl_cell HX.out z5)))
            go_ret
            exact ⟨rfl, hid (Below.next (Below.next B5'.out HX.out) b1)⟩
end Go.Proofs.YtimfjoinjfecjaaGreat
