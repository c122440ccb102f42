/-
  Rows behind rows that have no room; what mult asks ahead of the first gate.
-/
import Derived.Test.YtifecnnkkbpglaaCo
import Derived.Test.YtifecnnkkbpglaaPd
namespace Go.Proofs.Ytifecnnkkbpglaa
open Go.RowKit
set_option linter.unusedVariables false

/-! ### a row behind one that has no room: a new one -/
theorem getD_app (xs ys : List Int) (j : Nat) (hj : j < xs.length + ys.length) (Z : Array Value) :
    ((xs.map (Value.int .i64)).toArray ++ (ys.map (Value.int .i64)).toArray ++ Z)[j]? = some (.int .i64 ((xs ++ ys).getD j 0)) := by
  have hl : j < (xs ++ ys).length := by rw [List.length_append]; exact hj
  have e : ((xs.map (Value.int .i64)).toArray ++ (ys.map (Value.int .i64)).toArray) = ((xs ++ ys).map (Value.int .i64)).toArray := by simp
  rw [e, Array.getElem?_append_left (by simp; omega)]
  simp only [List.getElem?_toArray, List.getElem?_map, List.getElem?_eq_getElem hl, Option.map_some, List.getD_eq_getElem?_getD, Option.getD_some]

theorem app_full (w : World) (ty : TypeId) (ao : Addr) (n : Nat) (xs : List Int) (rx : Row w (some ao) n n xs) (bo : Addr) (m c : Nat) (ys : List Int) (ry : Row w (some bo) m c ys) (hm : 0 < m) (hn : n + m ≤ 1000000) :
    ∃ g cap w', (Builtin.append_ #[29, 29] ty #[.slice (some ao) n n, .slice (some bo) m c]).run Try.prog w = .ok (.slice (some ⟨g, 0, none⟩) (n + m) cap) w' ∧ TR w' (some ⟨g, 0, none⟩) (n + m) cap (xs ++ ys) ∧ Below w.heap.size w w' := by
  obtain ⟨i0, hi, hz0, hz1, hz2⟩ := info_parts Try.info3
  obtain ⟨ad, e, hc⟩ := row_cells ry hm
  cases e
  have hx : ∀ (j : Nat) (v : Value), (xs.map (Value.int .i64))[j]? = some v → w.cell? (ao.add j) = some v := by
    by_cases h0 : 0 < n
    · obtain ⟨ad, e, hc⟩ := row_cells rx h0
      cases e; exact hc
    · intro j v hj
      have : xs = [] := List.eq_nil_of_length_eq_zero (by rw [rx.1]; omega)
      subst this; simp at hj
  have hr := run_append_grow (P := Try.prog) w 29 ty 3 i0 (.int .i64 0) Try.underlying29 hi hz0 ao n n (xs.map (Value.int .i64)) (by rw [List.length_map, rx.1, hz1, Nat.mul_one]) hx bo m c (ys.map (Value.int .i64)) (by rw [List.length_map, ry.1, hz1, Nat.mul_one]) hc (by omega) (by omega) (growslice_fits (by omega) (by rw [hz2]; omega))
  have hb : Below w.heap.size w (w.drew.alloc (.cells ((xs.map (Value.int .i64)).toArray ++ (ys.map (Value.int .i64)).toArray ++ Builtin.zeroCells (Value.int .i64 0).cells (grownCap w (n + m) n 3 - (n + m))) 3)) := ((Below.refl _ _).drew).alloc (Nat.le_refl _) _
  refine ⟨_, _, _, hr, ?_, hb⟩
  have hg := new_same w.drew (.cells ((xs.map (Value.int .i64)).toArray ++ (ys.map (Value.int .i64)).toArray ++ Builtin.zeroCells (Value.int .i64 0).cells (grownCap w (n + m) n 3 - (n + m))) 3)
  generalize (w.drew.alloc (.cells ((xs.map (Value.int .i64)).toArray ++ (ys.map (Value.int .i64)).toArray ++ Builtin.zeroCells (Value.int .i64 0).cells (grownCap w (n + m) n 3 - (n + m))) 3)) = w' at hg hb ⊢
  have hmax : n + m ≤ maxLen := by unfold maxLen; omega
  have hg : w'.heap[w.heap.size]? = _ := hg
  refine ⟨⟨by rw [List.length_append, rx.1, ry.1], grownCap_ge _ _ _ _, grownCap_le_maxLen _ _ _ _ hmax, fun e => by simp at e, fit_append rx.2.2.2.2.1 ry.2.2.2.2.1, fun _ => ⟨_, 0, rfl, fun j hj => ?_⟩⟩, fun _ => ⟨_, 0, rfl, typ_of hg, fun q => q⟩⟩
  rw [Nat.zero_add, cell_of hg]
  exact getD_app xs ys j (by rw [rx.1, ry.1]; exact hj) _

/-- As a step of a region that draws its order. -/
theorem step_full {w : World} {ops : Array Oper} {o : Oper} {a : Act} {Kc : Act → World → Prop} {Q : Exit → Act → World → Prop} {G : Prop} (hgd : o.guard = none) (s x : Operand)
    (ho : o.op = .call { callee := .builtin .append, args := #[s, x], argTypes := #[29, 29] }) (ao : Addr) (n : Nat) (xs : List Int) (hs : a.eval s = .slice (some ao) n n) (rx : Row w (some ao) n n xs)
    (bo : Addr) (m c : Nat) (ys : List Int) (hx : a.eval x = .slice (some bo) m c) (ry : Row w (some bo) m c ys) (hm : 0 < m) (hn : n + m ≤ 1000000)
    (h : ∀ g cap w', Hid (TR w' (some ⟨g, 0, none⟩) (n + m) cap (xs ++ ys)) → Hid (Below w.heap.size w w') → Kc (a.put o.dst (.slice (some ⟨g, 0, none⟩) (n + m) cap)) w') :
    if Region.wanted o (yielded ops a.tmps) = true then Oper.wp Try.prog o a w Kc Q else G := by
  have hwd : Region.wanted o (yielded ops a.tmps) = true := by simp [Region.wanted, hgd]
  rw [if_pos hwd]
  obtain ⟨g, cap, w', hr, h2, h3⟩ := app_full w o.type ao n xs rx bo m c ys ry hm hn
  unfold Oper.wp execOp
  simp only [ho, resolve, invoke, builtin, Sem.run_bind, Sem.run_pure, Result.andThen_ok, List.map_toArray, List.map_cons, List.map_nil, hs, hx, hr]
  exact h g cap w' h2 h3

/-! ### rows and what they tell -/
theorem Lits.as {n : Nat} {val : Nat → Bool} {xs : List Int} {m : Nat} {A A' : Nat → Bool} (h : Lits n val xs m A) (e : ∀ j, j < m → A j = A' j) : Lits n val xs m A' :=
  ⟨h.len, h.rg, fun j x hx => by rw [h.is j x hx, e j (by have := (List.getElem?_eq_some_iff.1 hx).1; rw [← h.len]; exact this)]⟩
theorem Lits.app {n : Nat} {val : Nat → Bool} {xs ys : List Int} {m k : Nat} {A C : Nat → Bool} (h : Lits n val xs m A) (g : Lits n val ys k C) : Lits n val (xs ++ ys) (m + k) (fun j => if j < m then A j else C (j - m)) := by
  refine ⟨by rw [List.length_append, h.len, g.len], fun x hx => (List.mem_append.1 hx).elim (h.rg x) (g.rg x), fun j x hx => ?_⟩
  by_cases hj : j < m
  · rw [List.getElem?_append_left (by rw [h.len]; exact hj)] at hx
    simp only [hj, if_true]; exact h.is j x hx
  · rw [List.getElem?_append_right (by rw [h.len]; omega), h.len] at hx
    simp only [hj, if_false]; exact g.is _ x hx
theorem Lits.drop {n : Nat} {val : Nat → Bool} {xs : List Int} {m : Nat} {A : Nat → Bool} (h : Lits n val xs m A) {i : Nat} (hi : i ≤ m) : Lits n val (xs.drop i) (m - i) (fun j => A (i + j)) := by
  refine ⟨by rw [List.length_drop, h.len], fun x hx => h.rg x (List.mem_of_mem_drop hx), fun j x hx => ?_⟩
  rw [List.getElem?_drop] at hx
  exact h.is _ x hx
theorem TR.full {w : World} {ao : Option Addr} {m c : Nat} {xs : List Int} (h : TR w ao m c xs) {c' : Nat} (h1 : m ≤ c') (h2 : c' ≤ c) (h0 : ao = none → c' = 0) : TR w ao m c' xs :=
  ⟨⟨h.1.1, h1, Nat.le_trans h2 h.1.2.2.1, h0, h.1.2.2.2.2.1, h.1.2.2.2.2.2⟩, h.2⟩
theorem TR.drop {w : World} {b off m c c' i : Nat} {xs : List Int} (h : TR w (some ⟨b, off, none⟩) m c xs) (hi : i ≤ m) (h1 : m - i ≤ c') (h2 : c' ≤ c) : TR w (some ⟨b, off + i, none⟩) (m - i) c' (xs.drop i) := by
  obtain ⟨r, t⟩ := h
  refine ⟨⟨by rw [List.length_drop, r.1], h1, Nat.le_trans h2 r.2.2.1, fun e => by simp at e, fun x hx => r.2.2.2.2.1 x (List.mem_of_mem_drop hx), fun h0 => ?_⟩, fun h0 => ?_⟩
  · obtain ⟨b2, o2, e, hc⟩ := r.2.2.2.2.2 (by omega)
    simp only [Option.some.injEq, Addr.mk.injEq, and_true] at e
    obtain ⟨rfl, rfl⟩ := e
    refine ⟨_, _, rfl, fun j hj => ?_⟩
    rw [Nat.add_assoc, hc (i + j) (by omega)]
    simp [List.getElem?_drop]
  · obtain ⟨b2, o2, e, ht, hn⟩ := t (by omega)
    simp only [Option.some.injEq, Addr.mk.injEq, and_true] at e
    obtain ⟨rfl, rfl⟩ := e
    exact ⟨_, _, rfl, ht, hn⟩

theorem REnd.as {B : BT} {gb : Nat} {is : List Int} {n0 : Nat} {v0 : Nat → Bool} {k : Nat} {w w' : World} {rb m : Nat} {S S' : Nat → Bool} (h : REnd B gb is n0 v0 k w w' rb m S) (e : ∀ j, j < m → S j = S' j) : REnd B gb is n0 v0 k w w' rb m S' := by
  obtain ⟨n, cs, val, zs, s, t, l, hb⟩ := h
  exact ⟨n, cs, val, zs, s, t, l.as e, hb⟩

/-! ### what mult asks -/

/-- areRows of rows that are. -/
theorem rows_yes {B : BT} {gb n : Nat} {cs : List (List Int)} {val : Nat → Bool} {is : List Int} (w : World) (g : Good n cs val is) (h : Gt B gb w n cs) (hn : n ≤ 5000) (ao bo : Option Addr) (m c1 c2 : Nat) (xs ys : List Int) (rx : TR w ao m c1 xs) (ry : TR w bo m c2 ys) (A Bf : Nat → Bool) (X : Lits n val xs m A) (Y : Lits n val ys m Bf) (hm : m ≤ 1000) (hm0 : 0 < m) :
    Calls Try.prog 18 #[.pointer (some ⟨gb, 0, none⟩), .slice ao m c1, .slice bo m c2] w fun e w' => e = .returned (.bool true) ∧ Hid (∃ n' cs' val', Sx B gb is n val m w w' n' cs' val') := by
  have HG := hid g
  have G := hid h
  have RX := hid rx
  have RY := hid ry
  have HX := hid X
  have HY := hid Y
  have h0 : (0 : Int) < m := by omega
  clear g h rx ry X Y
  go_enter Try.func18, Try.ntmps18
  go_wp2_with (first
    | (go_at_call 14; with_reducible (refine (true_any gb _).mono ?_); rintro e w1 ⟨rfl, rfl⟩)
    | (go_at_call 22; with_reducible (refine (aite_any _ HG.out G.out hn 0 (rng_zero HG.out.pos) true (hd_zero HG.out) ao bo m c1 c2 xs ys RX.out RY.out A Bf HX.out HY.out hm hm0).mono ?_); rintro e w1 ⟨rb, rfl, hr⟩))
  go_ret
  refine ⟨rfl, ?_⟩
  obtain ⟨n', cs', val', zs, s, t, l⟩ := hr.out
  exact hid ⟨n', cs', val', s⟩

/-- areRows of rows that are none. -/
theorem rows_no (w : World) (gb n : Nat) (hp : Vq w (.pointer (some ⟨gb, 0, none⟩)) n) (hn : n ≤ 10000) (h0 : 0 < n) (ao bo : Option Addr) (m m2 c1 c2 : Nat) (xs ys : List Int) (rx : Row w ao m c1 xs) (ry : Row w bo m2 c2 ys) (hh : al2 n m m2 xs ys = false) :
    Calls Try.prog 18 #[.pointer (some ⟨gb, 0, none⟩), .slice ao m c1, .slice bo m2 c2] w fun e w' => e = .returned (.bool false) ∧ Hid (Below w.heap.size w w') := by
  have HP := hid hp
  have RX := hid rx
  have RY := hid ry
  have HH := hid hh
  clear hp rx ry hh
  go_enter Try.func18, Try.ntmps18
  go_wp2_with (first
    | (go_at_call 14; with_reducible (refine (true_any gb _).mono ?_); rintro e w1 ⟨rfl, rfl⟩)
    | (go_at_call 22; with_reducible (refine (aite_bad _ _ n HP.out hn ao bo m m2 c1 c2 xs ys RX.out RY.out HH.out 0 (rng_zero h0)).mono ?_); rintro e w1 ⟨rfl, hb⟩))
  go_ret
  exact ⟨rfl, hb⟩

/-- Of nil gates none. -/
theorem rows_nil (w : World) (u v : Value) :
    Calls Try.prog 18 #[.pointer none, u, v] w fun e w' => e = .returned (.bool false) ∧ Hid (Below w.heap.size w w') := by
  go_enter Try.func18, Try.ntmps18
  go_wp2_with (first
    | (go_at_call 14; with_reducible (refine (true_nil _).mono ?_); rintro e w1 ⟨rfl, rfl⟩)
    | (go_at_call 22; with_reducible (refine (aite_none _ _ 0 (vq_nil _) (by omega) _ _ (-1) (by omega) (by unfold rng; omega)).mono ?_); rintro e w1 ⟨rfl, hb⟩))
  go_ret
  exact ⟨rfl, hb⟩

end Go.Proofs.Ytifecnnkkbpglaa
