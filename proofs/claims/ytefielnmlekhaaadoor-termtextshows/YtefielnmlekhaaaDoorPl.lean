/-
  What terms mean, as plain data: no Go text here.
-/
import Derived.Test.YtefielnmlekhaaaDoorOnce
import Derived.Test.YtefielnmlekhaaaDoorLooks
import Derived.Test.YtefielnmlekhaaaDoorWMath
namespace Go.Proofs.YtefielnmlekhaaaDoor
open Go.RowKit
set_option linter.unusedVariables false

/-- Each term is one that a call makes of the terms ahead; none is there twice. -/
structure Wl (N : List Nd) : Prop where
  lay : ∀ (i : Nat) (n : Nd), N[i]? = some n → ∃ d, planD (N.take i) d = .inr n
  one : N.Nodup

theorem Wl.nil : Wl [] := ⟨fun i n h => by simp at h, List.nodup_nil⟩

theorem Wl.made {N : List Nd} (r : Wl N) (M : Nat) (d : Dd) : Wl (resN M N (planD N d)) := by
  cases hp : planD N d with
  | inl p => exact r
  | inr n =>
    simp only [resN]
    rcases mkN_cases M N n with ⟨h1, e1, _⟩ | ⟨h1, h2, e1, _⟩ | ⟨h1, h2, e1, _⟩
    · rw [e1]; exact r
    · rw [e1]
      refine ⟨fun i m hm => ?_, ?_⟩
      · by_cases hi : i < N.length
        · rw [List.getElem?_append_left hi] at hm
          rw [List.take_append_of_le_length (by omega)]
          exact r.lay i m hm
        · rw [List.getElem?_append_right (by omega)] at hm
          have hi2 : i = N.length := by
            by_cases e : i - N.length = 0
            · omega
            · rw [List.getElem?_eq_none (by simp; omega)] at hm; cases hm
          subst hi2
          simp at hm; subst hm
          rw [List.take_append_of_le_length (Nat.le_refl _), List.take_length]
          exact ⟨d, hp⟩
      · rw [List.nodup_append]
        refine ⟨r.one, by simp, fun a ha b hb => ?_⟩
        simp at hb; subst hb
        intro e; subst e; exact h1 ha
    · rw [e1]; exact r

def Ahd (i : Nat) (a : Int) : Prop := 0 ≤ a ∧ a < i

def Shp (N : List Nd) (i : Nat) (n : Nd) : Prop :=
  (n.op = 20 ∧ (1 ≤ n.wd ∧ n.wd ≤ 64) ∧ ∃ x, n.v = cutF n.wd x) ∨
  (n.op = 21 ∧ (1 ≤ n.wd ∧ n.wd ≤ 64) ∧ (0 ≤ n.a ∧ n.a < 256) ∧ n.b = 0 ∧ n.c = 0 ∧ n.v = 0) ∨
  ((n.op = 15 ∨ n.op = 16) ∧ Ahd i n.a ∧ n.wd = wdF N n.a) ∨
  ((1 ≤ n.op ∧ n.op ≤ 14) ∧ Ahd i n.a ∧ Ahd i n.b ∧ wdF N n.a = wdF N n.b ∧ n.wd = opW n.op (wdF N n.a)) ∨
  (n.op = 22 ∧ Ahd i n.a ∧ Ahd i n.b ∧ Ahd i n.c ∧ wdF N n.b = n.wd ∧ wdF N n.c = n.wd) ∨
  (n.op = 23 ∧ Ahd i n.a ∧ (0 ≤ n.b ∧ n.b < 64) ∧ 1 ≤ n.wd ∧ n.wd ≤ 64) ∨
  (n.op = 24 ∧ Ahd i n.a ∧ Ahd i n.b ∧ n.wd = wdF N n.a + wdF N n.b ∧ n.wd ≤ 64) ∨
  ((n.op = 25 ∨ n.op = 26) ∧ Ahd i n.a ∧ wdF N n.a < n.wd ∧ n.wd ≤ 64)

theorem isN_take {N : List Nd} {i : Nat} (hi : i < N.length) {a : Int} (h : isN (N.take i) a = true) : Ahd i a ∧ wdF (N.take i) a = wdF N a := by
  obtain ⟨j, rfl, hj⟩ := isN_yes h
  simp at hj
  refine ⟨⟨by omega, by omega⟩, ?_⟩
  have h1 : isN N (j : Int) = true := isN_nat (by omega)
  unfold wdF ndA
  rw [h, h1]
  simp only [if_true, Int.toNat_natCast, List.getD_eq_getElem?_getD]
  rw [List.getElem?_take_of_lt (by omega)]

theorem shp_of {N : List Nd} (g : Gd N) {i : Nat} (hi : i < N.length) {d : Dd} {n : Nd} (h : planD (N.take i) d = .inr n) : Shp N i n := by
  obtain ⟨kd, dw, da, db, dc, dx⟩ := d
  have T := fun a => @isN_take N i hi a
  unfold planD at h
  simp only [] at h
  split at h
  · unfold constP at h
    split at h
    · rename_i hf
      cases h
      exact .inl ⟨rfl, fits_bd hf, _, rfl⟩
    · cases h
  split at h
  · unfold varP at h
    split at h
    · rename_i hf
      split at h
      · cases h
      · rename_i hb
        split at h
        · cases h
        · cases h
          simp at hb
          exact .inr (.inl ⟨rfl, fits_bd hf, ⟨hb.1, by simp only []; omega⟩, rfl, rfl, rfl⟩)
    · cases h
  split at h
  · unfold unP at h
    split at h
    · cases h
    · rename_i ho
      split at h
      · rename_i ha
        cases h
        simp only [bne_iff_ne, ne_eq, Bool.and_eq_true, not_and, Decidable.not_not] at ho
        refine .inr (.inr (.inl ⟨?_, (T _ ha).1, (T _ ha).2⟩))
        simp only []
        by_cases e : da = 15
        · exact .inl e
        · exact .inr (ho e)
      · cases h
  split at h
  · unfold binP at h
    split at h
    · cases h
    · rename_i ho
      split at h
      · rename_i hab
        split at h
        · cases h
        · rename_i hw
          cases h
          simp at ho hw hab
          refine .inr (.inr (.inr (.inl ⟨⟨by simp only []; omega, by simp only []; omega⟩, (T _ hab.1).1, (T _ hab.2).1, ?_, ?_⟩)))
          · rw [← (T _ hab.1).2, ← (T _ hab.2).2]; exact hw
          · rw [← (T _ hab.1).2]
      · cases h
  split at h
  · unfold iteP at h
    split at h
    · rename_i hab
      split at h
      · cases h
      · rename_i hw
        cases h
        simp at hw hab
        refine .inr (.inr (.inr (.inr (.inl ⟨rfl, (T _ hab.1).1, (T _ hab.2.1).1, (T _ hab.2.2).1, ?_, ?_⟩))))
        · rw [← (T _ hab.2.1).2]
        · rw [← (T _ hab.2.2).2]; exact hw.2.symm
    · cases h
  split at h
  · unfold extP at h
    split at h
    · rename_i ha
      split at h
      · cases h
      · rename_i hw
        cases h
        simp at hw
        have := (T _ ha).2
        have := wdF_bd g da
        exact .inr (.inr (.inr (.inr (.inr (.inl ⟨rfl, (T _ ha).1, ⟨hw.2.1, by simp only []; omega⟩, by simp only []; omega, by simp only []; omega⟩)))))
    · cases h
  split at h
  · unfold catP at h
    split at h
    · rename_i hab
      split at h
      · cases h
      · rename_i hw
        cases h
        simp at hw hab
        refine .inr (.inr (.inr (.inr (.inr (.inr (.inl ⟨rfl, (T _ hab.1).1, (T _ hab.2).1, ?_, hw⟩))))))
        rw [← (T _ hab.1).2, ← (T _ hab.2).2]
    · cases h
  · unfold widP at h
    split at h
    · rename_i ha
      split at h
      · cases h
      · rename_i hw
        split at h
        · cases h
        · rename_i hne
          simp at hw hne
          rw [(T _ ha).2] at hw hne
          split at h
          · cases h
            exact .inr (.inr (.inr (.inr (.inr (.inr (.inr ⟨.inr rfl, (T _ ha).1, by simp only []; omega, hw.2⟩))))))
          · cases h
            exact .inr (.inr (.inr (.inr (.inr (.inr (.inr ⟨.inl rfl, (T _ ha).1, by simp only []; omega, hw.2⟩))))))
    · cases h

theorem Wl.shp {N : List Nd} (r : Wl N) (g : Gd N) {i : Nat} (hi : i < N.length) : Shp N i (ndA N i) := by
  obtain ⟨d, hd⟩ := r.lay i _ (ndA_nat hi)
  exact shp_of g hi hd

/-! ### parts, and meaning -/
def ksF (n : Nd) : List Int := if n.op = 20 ∨ n.op = 21 then [] else if n.op = 22 then [n.a, n.b, n.c] else if n.op = 15 ∨ n.op = 16 ∨ n.op = 23 ∨ n.op = 25 ∨ n.op = 26 then [n.a] else [n.a, n.b]

def enF (E : List Int) (a : Int) : Int := E.getD a.toNat 0

def meanF (N : List Nd) (E : List Int) (n : Nd) (ps : List Int) : Int :=
  if n.op = 20 then n.v else if n.op = 21 then cutF n.wd (enF E n.a)
  else if n.op = 22 then (if ps.getD 0 0 = 1 then ps.getD 1 0 else ps.getD 2 0)
  else if n.op = 23 then cutF n.wd (ps.getD 0 0 / 2 ^ n.b.toNat)
  else if n.op = 24 then bits .or .u64 (IntKind.u64.wrap (ps.getD 0 0 * 2 ^ (wdF N n.b).toNat)) (ps.getD 1 0)
  else if n.op = 25 then ps.getD 0 0
  else if n.op = 26 then cutF n.wd (IntKind.u64.wrap (Wd.sgnF (wdF N n.a) (ps.getD 0 0)))
  else if n.op = 15 ∨ n.op = 16 then Wd.unF n.op n.wd (ps.getD 0 0)
  else Wd.binF n.op (wdF N n.a) (ps.getD 0 0) (ps.getD 1 0)

theorem ks_ahead {N : List Nd} {i : Nat} {n : Nd} (h : Shp N i n) : ∀ k ∈ ksF n, Ahd i k := by
  intro k hk
  unfold ksF at hk
  rcases h with ⟨e, _⟩ | ⟨e, _⟩ | ⟨e, h1, _⟩ | ⟨e, h1, h2, _⟩ | ⟨e, h1, h2, h3, _⟩ | ⟨e, h1, _⟩ | ⟨e, h1, h2, _⟩ | ⟨e, h1, _⟩
  · rw [if_pos (.inl e)] at hk; simp at hk
  · rw [if_pos (.inr e)] at hk; simp at hk
  · rw [if_neg (by omega), if_neg (by omega), if_pos (by omega)] at hk; simp at hk; subst hk; exact h1
  · rw [if_neg (by omega), if_neg (by omega), if_neg (by omega)] at hk; simp at hk
    rcases hk with rfl | rfl
    · exact h1
    · exact h2
  · rw [if_neg (by omega), if_pos e] at hk; simp at hk
    rcases hk with rfl | rfl | rfl
    · exact h1
    · exact h2
    · exact h3
  · rw [if_neg (by omega), if_neg (by omega), if_pos (by omega)] at hk; simp at hk; subst hk; exact h1
  · rw [if_neg (by omega), if_neg (by omega), if_neg (by omega)] at hk; simp at hk
    rcases hk with rfl | rfl
    · exact h1
    · exact h2
  · rw [if_neg (by omega), if_neg (by omega), if_pos (by omega)] at hk; simp at hk; subst hk; exact h1

theorem ks_len (n : Nd) : (ksF n).length ≤ 3 := by
  unfold ksF
  split
  · simp
  · split
    · simp
    · split <;> simp

def gt (V : List Int) (a : Int) : Int := V.getD a.toNat 0

def valsF (N : List Nd) (E : List Int) : Nat → List Int
  | 0 => []
  | i + 1 => valsF N E i ++ [meanF N E (ndA N i) ((ksF (ndA N i)).map (gt (valsF N E i)))]

theorem valsF_len (N : List Nd) (E : List Int) (i : Nat) : (valsF N E i).length = i := by
  induction i with
  | zero => rfl
  | succ i ih => simp [valsF, ih]

theorem valsF_at (N : List Nd) (E : List Int) {i j : Nat} (h : j < i) : (valsF N E i).getD j 0 = (valsF N E (j + 1)).getD j 0 := by
  induction i with
  | zero => omega
  | succ i ih =>
    by_cases e : j = i
    · subst e; rfl
    · have := ih (by omega)
      rw [← this]
      have hl := valsF_len N E i
      simp only [valsF]
      rw [List.getD_eq_getElem?_getD, List.getD_eq_getElem?_getD, List.getElem?_append_left (by omega)]

def vF (N : List Nd) (E : List Int) (a : Int) : Int := gt (valsF N E N.length) a

theorem vF_nat (N : List Nd) (E : List Int) {i j : Nat} (hi : i ≤ N.length) (h : j < i) : gt (valsF N E i) (j : Int) = vF N E j := by
  unfold vF gt
  simp only [Int.toNat_natCast]
  rw [valsF_at N E h, valsF_at N E (show j < N.length by omega)]

theorem vF_eq {N : List Nd} (r : Wl N) (g : Gd N) (E : List Int) {i : Nat} (hi : i < N.length) : vF N E i = meanF N E (ndA N i) ((ksF (ndA N i)).map (vF N E)) := by
  have h1 : vF N E i = (valsF N E (i + 1)).getD i 0 := by
    unfold vF gt
    rw [Int.toNat_natCast, valsF_at N E hi]
  have hl := valsF_len N E i
  rw [h1]
  simp only [valsF]
  rw [List.getD_eq_getElem?_getD, List.getElem?_append_right (by omega), hl]
  simp
  congr 1
  apply List.map_congr_left
  intro k hk
  obtain ⟨k0, k1⟩ := ks_ahead (r.shp g hi) k hk
  obtain ⟨j, rfl⟩ := Int.eq_ofNat_of_zero_le k0
  exact vF_nat N E (by omega) (by omega)

/-! ### what a term is made of -/
def Rch (N : List Nd) (i j : Nat) : Prop := ∀ P : Nat → Prop, P i → (∀ m, P m → ∀ k ∈ ksF (ndA N m), P k.toNat) → P j

theorem Rch.refl (N : List Nd) (i : Nat) : Rch N i i := fun P h _ => h
theorem Rch.step {N : List Nd} {i m : Nat} (h : Rch N i m) {k : Int} (hk : k ∈ ksF (ndA N m)) : Rch N i k.toNat := fun P h1 h2 => h2 m (h P h1 h2) k hk
theorem Rch.head {N : List Nd} {i j : Nat} {k : Int} (hk : k ∈ ksF (ndA N i)) (h : Rch N k.toNat j) : Rch N i j := fun P h1 h2 => h P (h2 i h1 k hk) h2
theorem Rch.le {N : List Nd} (r : Wl N) (g : Gd N) {i j : Nat} (hi : i < N.length) (h : Rch N i j) : j ≤ i := by
  refine h (fun m => m ≤ i) (Nat.le_refl _) fun m hm k hk => ?_
  obtain ⟨k0, k1⟩ := ks_ahead (r.shp g (show m < N.length by omega)) k hk
  show k.toNat ≤ i
  omega

/-- All terms that one is made of, each once. -/
def BelL (N : List Nd) (i : Nat) (B : List Nat) : Prop := B.Nodup ∧ ∀ j, j ∈ B ↔ Rch N i j

theorem BelL.perm {N : List Nd} {i : Nat} {B C : List Nat} (h : BelL N i B) (h2 : BelL N i C) : B.Perm C := by
  rw [List.perm_ext_iff_of_nodup h.1 h2.1]
  intro a
  rw [h.2, h2.2]
theorem BelL.len {N : List Nd} {i : Nat} {B C : List Nat} (h : BelL N i B) (h2 : BelL N i C) : B.length = C.length := (h.perm h2).length_eq

open Classical in
theorem bel_some {N : List Nd} (r : Wl N) (g : Gd N) {i : Nat} (hi : i < N.length) : ∃ B, BelL N i B := by
  refine ⟨(List.range (i + 1)).filter fun j => decide (Rch N i j), List.Pairwise.filter _ List.nodup_range, fun j => ?_⟩
  simp
  intro h
  have := h.le r g hi
  omega

def isV (N : List Nd) (j : Nat) : Bool := (ndA N j).op == 21

/-- The variables of one, rising. -/
def VarL (N : List Nd) (i : Nat) (vs : List Int) : Prop := vs.Pairwise (· < ·) ∧ ∀ a, a ∈ vs ↔ ∃ j, Rch N i j ∧ isV N j = true ∧ (ndA N j).a = a

theorem rise_eq {xs ys : List Int} (h1 : xs.Pairwise (· < ·)) (h2 : ys.Pairwise (· < ·)) (h : ∀ a, a ∈ xs ↔ a ∈ ys) : xs = ys := by
  induction xs generalizing ys with
  | nil =>
    cases ys with
    | nil => rfl
    | cons y ys => exact absurd ((h y).2 (by simp)) (by simp)
  | cons x xs ih =>
    cases ys with
    | nil => exact absurd ((h x).1 (by simp)) (by simp)
    | cons y ys =>
      have hx := List.pairwise_cons.1 h1
      have hy := List.pairwise_cons.1 h2
      have e : x = y := by
        have a1 := (h x).1 (by simp)
        have a2 := (h y).2 (by simp)
        rcases List.mem_cons.1 a1 with a1 | a1
        · exact a1
        · rcases List.mem_cons.1 a2 with a2 | a2
          · exact a2.symm
          · have := hx.1 y a2; have := hy.1 x a1; omega
      subst e
      rw [ih hx.2 hy.2 fun a => ?_]
      constructor
      · intro ha
        have := hx.1 a ha
        rcases List.mem_cons.1 ((h a).1 (by simp [ha])) with e | e
        · omega
        · exact e
      · intro ha
        have := hy.1 a ha
        rcases List.mem_cons.1 ((h a).2 (by simp [ha])) with e | e
        · omega
        · exact e

theorem VarL.eq {N : List Nd} {i : Nat} {vs ws : List Int} (h : VarL N i vs) (h2 : VarL N i ws) : vs = ws := rise_eq h.1 h2.1 fun a => by rw [h.2, h2.2]

/-- No variable is two terms. -/
theorem var_one {N : List Nd} (r : Wl N) (g : Gd N) {i j : Nat} (hi : i < N.length) (hj : j < N.length) (vi : isV N i = true) (vj : isV N j = true) (e : (ndA N i).a = (ndA N j).a) : i = j := by
  have mi := ndA_mem (isN_nat hi)
  have mj := ndA_mem (isN_nat hj)
  have oi : (ndA N i).op = 21 := by simpa [isV] using vi
  have oj : (ndA N j).op = 21 := by simpa [isV] using vj
  have hw := g.one _ mi _ mj oi oj e
  have key : ∀ {m : Nat}, m < N.length → (ndA N m).op = 21 → (ndA N m).b = 0 ∧ (ndA N m).c = 0 ∧ (ndA N m).v = 0 := by
    intro m hm ho
    rcases r.shp g hm with ⟨e, _⟩ | ⟨e, _, _, h1⟩ | ⟨e, _⟩ | ⟨e, _⟩ | ⟨e, _⟩ | ⟨e, _⟩ | ⟨e, _⟩ | ⟨e, _⟩
    · omega
    · exact h1
    all_goals omega
  have ki := key hi oi
  have kj := key hj oj
  have eq : ndA N i = ndA N j := by
    revert oi oj hw ki kj e
    generalize ndA N i = x
    generalize ndA N j = y
    intro e oi oj hw ki kj
    obtain ⟨x0, x1, x2, x3, x4, x5⟩ := x
    obtain ⟨y0, y1, y2, y3, y4, y5⟩ := y
    simp only [] at e oi oj hw ki kj
    obtain ⟨rfl, rfl, rfl⟩ := ki
    obtain ⟨rfl, rfl, rfl⟩ := kj
    subst e oi oj hw
    rfl
  have h1 := ndA_nat hi
  have h2 := ndA_nat hj
  rw [← eq] at h2
  exact (List.getElem?_inj hi r.one).1 (h1.trans h2.symm)

end Go.Proofs.YtefielnmlekhaaaDoor
