/-
  Numbers, literals and clauses as texts, and how a text is read: plain functions of lists of bytes. No program stands here.
-/
import Derived.Test.YtdhkabppcdnfeaaDoorMath
import Derived.Lib.ItoaMem
import Derived.Lib.Strings
namespace Go.Proofs.YtdhkabppcdnfeaaDoor
open Go.Lib (decDigits itoa hasPrefix trimPrefix)
set_option linter.unusedVariables false

def isDig (b : UInt8) : Bool := decide (48 ≤ b.toNat) && decide (b.toNat ≤ 57)
def dv (b : UInt8) : Nat := b.toNat - 48
def val (ds : List UInt8) : Nat := ds.foldl (fun a d => 10 * a + dv d) 0

theorem val_snoc (ds : List UInt8) (d : UInt8) : val (ds ++ [d]) = 10 * val ds + dv d := by simp [val]
theorem val_le : ∀ (es ds : List UInt8), val ds ≤ val (ds ++ es)
  | [], ds => by simp
  | e :: es, ds => by
    have h := val_le es (ds ++ [e])
    rw [val_snoc] at h
    have e1 : ds ++ e :: es = ds ++ [e] ++ es := by simp
    rw [e1]; omega

theorem dig_of {k : Nat} (h : k < 10) : isDig (UInt8.ofNat (48 + k)) = true ∧ dv (UInt8.ofNat (48 + k)) = k ∧ (UInt8.ofNat (48 + k)).toNat = 48 + k := by
  have e : (UInt8.ofNat (48 + k)).toNat = 48 + k := by rw [UInt8.toNat_ofNat']; omega
  refine ⟨?_, ?_, e⟩
  · simp [isDig]; omega
  · unfold dv; rw [e]; omega

theorem of_dig {b : UInt8} (h : isDig b = true) : UInt8.ofNat (48 + dv b) = b ∧ dv b < 10 := by
  simp [isDig] at h
  refine ⟨?_, by unfold dv; omega⟩
  apply UInt8.toNat_inj.1
  rw [UInt8.toNat_ofNat']; unfold dv; omega

theorem dec_big {u : Nat} (h : ¬ u < 10) : decDigits u = decDigits (u / 10) ++ [UInt8.ofNat (48 + u % 10)] := by rw [decDigits, dif_neg h]

theorem dec_facts (n : Nat) : val (decDigits n) = n ∧ (∀ b ∈ decDigits n, isDig b = true) ∧ decDigits n ≠ [] ∧ (0 < n → (decDigits n).head? ≠ some 48) := by
  induction n using Nat.strongRecOn with
  | _ n ih =>
    by_cases h : n < 10
    · obtain ⟨h1, h2, h3⟩ := dig_of h
      rw [Go.Lib.decDigits_one h]
      generalize UInt8.ofNat (48 + n) = b at h1 h2 h3
      refine ⟨by simp [val, h2], by simp [h1], by simp, fun h0 e => ?_⟩
      simp at e
      subst e
      simp at h3; omega
    · obtain ⟨i1, i2, i3, i4⟩ := ih (n / 10) (by omega)
      obtain ⟨h1, h2, h3⟩ := dig_of (k := n % 10) (by omega)
      rw [dec_big h]
      refine ⟨by rw [val_snoc, i1, h2]; omega, ?_, by simp, fun _ => ?_⟩
      · intro b hb
        rcases List.mem_append.1 hb with hb | hb
        · exact i2 b hb
        · rw [List.mem_singleton] at hb; rw [hb]; exact h1
      · have := i4 (by omega)
        cases e : decDigits (n / 10) with
        | nil => exact absurd e i3
        | cons b r => rw [e] at this; simpa using this

theorem val_pos {ds : List UInt8} (hd : ∀ b ∈ ds, isDig b = true) (h0 : ds ≠ []) (h : ds.head? ≠ some 48) : 0 < val ds := by
  cases ds with
  | nil => exact absurd rfl h0
  | cons b r =>
    have h1 := val_le r [b]
    have h2 : val [b] = dv b := by simp [val]
    have h3 := hd b (by simp)
    have h4 : b ≠ 48 := by simpa using h
    simp [isDig] at h3
    have h5 : b.toNat ≠ 48 := fun e => h4 (UInt8.toNat_inj.1 e)
    rw [h2] at h1
    unfold dv at h1
    simp only [List.singleton_append] at h1
    omega

theorem dec_of : ∀ (k : Nat) (ds : List UInt8), ds.length = k → ds ≠ [] → (∀ b ∈ ds, isDig b = true) → (1 < ds.length → ds.head? ≠ some 48) → decDigits (val ds) = ds
  | 0, ds, hk, h0, _, _ => absurd (List.eq_nil_of_length_eq_zero hk) h0
  | k + 1, ds, hk, h0, hd, hh => by
    obtain ⟨es, d, rfl⟩ : ∃ es d, ds = es ++ [d] := ⟨_, _, (List.dropLast_concat_getLast h0).symm⟩
    obtain ⟨d1, d2⟩ := of_dig (hd d (by simp))
    by_cases he : es = []
    · subst he
      have : val ([] ++ [d]) = dv d := by simp [val]
      rw [this, Go.Lib.decDigits_one d2, d1]; rfl
    · have hes : ∀ b ∈ es, isDig b = true := fun b hb => hd b (by simp [hb])
      have hl : 0 < es.length := List.length_pos_iff.2 he
      have hh2 : es.head? ≠ some 48 := by
        have := hh (by simp; omega)
        cases es with
        | nil => exact absurd rfl he
        | cons b r => simpa using this
      have hp := val_pos hes he hh2
      have ih := dec_of k es (by simpa using hk) he hes (fun _ => hh2)
      rw [val_snoc, dec_big (by omega)]
      rw [show (10 * val es + dv d) / 10 = val es by omega, show (10 * val es + dv d) % 10 = dv d by omega, ih, d1]

/-! ### A number -/
def nd (r : List UInt8) : Prop := ∀ b, r.head? = some b → isDig b = false

def numP (top : Nat) (bs : List UInt8) : Option (Nat × List UInt8) :=
  if top < val (bs.takeWhile isDig) then none
  else if bs.takeWhile isDig = [] then none
  else if 1 < (bs.takeWhile isDig).length ∧ (bs.takeWhile isDig).head? = some 48 then none
  else some (val (bs.takeWhile isDig), bs.drop (bs.takeWhile isDig).length)

theorem tw_nd {r : List UInt8} (h : nd r) : r.takeWhile isDig = [] := by
  cases r with
  | nil => rfl
  | cons b r => simp [h b rfl]

theorem tw_app {ds r : List UInt8} (hd : ∀ b ∈ ds, isDig b = true) (h : nd r) : (ds ++ r).takeWhile isDig = ds := by
  rw [List.takeWhile_append_of_pos hd, tw_nd h, List.append_nil]

theorem nd_drop (bs : List UInt8) : nd (bs.drop (bs.takeWhile isDig).length) := by
  induction bs with
  | nil => intro b h; simp at h
  | cons c bs ih =>
    by_cases hc : isDig c = true
    · simpa [List.takeWhile_cons, hc] using ih
    · intro b h
      simp [hc] at h
      subst h; simpa using hc

theorem tw_split (bs : List UInt8) : bs.takeWhile isDig ++ bs.drop (bs.takeWhile isDig).length = bs := by
  induction bs with
  | nil => rfl
  | cons c bs ih =>
    by_cases hc : isDig c = true
    · simpa [List.takeWhile_cons, hc] using ih
    · simp [hc]

theorem tw_all (bs : List UInt8) : ∀ b ∈ bs.takeWhile isDig, isDig b = true := by
  induction bs with
  | nil => intro b h; simp at h
  | cons c bs ih =>
    by_cases hc : isDig c = true
    · intro b h
      simp [hc] at h
      rcases h with rfl | h
      · exact hc
      · exact ih b h
    · intro b h
      simp [hc] at h

theorem numP_dec {top n : Nat} {r : List UInt8} (h : n ≤ top) (hr : nd r) : numP top (decDigits n ++ r) = some (n, r) := by
  obtain ⟨h1, h2, h3, h4⟩ := dec_facts n
  have e := tw_app h2 hr
  unfold numP
  rw [e, h1, if_neg (by omega), if_neg h3, if_neg]
  · simp
  · rintro ⟨hl, hh⟩
    by_cases h0 : 0 < n
    · exact h4 h0 hh
    · obtain rfl : n = 0 := by omega
      rw [Go.Lib.decDigits_one (by omega)] at hl
      simp at hl

theorem numP_some {top n : Nat} {bs r : List UInt8} (h : numP top bs = some (n, r)) : bs = decDigits n ++ r ∧ n ≤ top ∧ nd r := by
  unfold numP at h
  split at h
  · cases h
  split at h
  · cases h
  split at h
  · cases h
  rename_i h1 h2 h3
  simp only [Option.some.injEq, Prod.mk.injEq] at h
  obtain ⟨rfl, rfl⟩ := h
  have e := dec_of _ _ rfl h2 (tw_all bs) (fun hl hh => h3 ⟨hl, hh⟩)
  exact ⟨by rw [e, tw_split], by omega, nd_drop bs⟩

/-- The first k are digits, and the next is none. -/
theorem tw_stop : ∀ {bs : List UInt8} {k : Nat}, (∀ b ∈ bs.take k, isDig b = true) → (∀ b, bs[k]? = some b → isDig b = false) → bs.takeWhile isDig = bs.take k
  | [], k, _, _ => by simp
  | b :: bs, 0, _, h => by
    have := h b (by simp)
    simp [this]
  | b :: bs, k + 1, hd, h => by
    have hb := hd b (by simp)
    have ih := tw_stop (bs := bs) (k := k) (fun c hc => hd c (by simp [hc])) (fun c hc => h c (by simpa using hc))
    simp [hb, ih]

theorem tw_more : ∀ {bs : List UInt8} {k : Nat}, (∀ b ∈ bs.take k, isDig b = true) → ∃ es, bs.takeWhile isDig = bs.take k ++ es
  | [], k, _ => ⟨[], by simp⟩
  | b :: bs, 0, _ => ⟨_, by simp; rfl⟩
  | b :: bs, k + 1, hd => by
    have hb := hd b (by simp)
    obtain ⟨es, ih⟩ := tw_more (bs := bs) (k := k) (fun c hc => hd c (by simp [hc]))
    exact ⟨es, by simp [hb, ih]⟩

theorem numP_great {top k : Nat} {bs : List UInt8} (hd : ∀ b ∈ bs.take k, isDig b = true) (h : top < val (bs.take k)) : numP top bs = none := by
  obtain ⟨es, e⟩ := tw_more hd
  have := val_le es (bs.take k)
  unfold numP
  rw [e, if_pos (by omega)]

/-! ### A literal -/
theorem hp_iff {s p : List UInt8} : hasPrefix s p = true ↔ ∃ r, s = p ++ r := by
  unfold Go.Lib.hasPrefix
  rw [List.isPrefixOf_iff_prefix]
  exact ⟨fun ⟨r, h⟩ => ⟨r, h.symm⟩, fun ⟨r, h⟩ => ⟨r, h.symm⟩⟩
theorem hp_app (p r : List UInt8) : hasPrefix (p ++ r) p = true := hp_iff.2 ⟨r, rfl⟩
theorem tp_yes {s p : List UInt8} (h : hasPrefix s p = true) : trimPrefix s p = s.drop p.length := by unfold Go.Lib.trimPrefix; rw [if_pos h]
theorem tp_no {s p : List UInt8} (h : hasPrefix s p = false) : trimPrefix s p = s := by unfold Go.Lib.trimPrefix; rw [if_neg (by simp [h])]
theorem hp_cons (b c : UInt8) (r : List UInt8) : hasPrefix (b :: r) [c] = (c == b) := by simp [Go.Lib.hasPrefix, List.isPrefixOf]

theorem dec_head_dig {n : Nat} {r : List UInt8} : ∃ b t, decDigits n ++ r = b :: t ∧ isDig b = true := by
  obtain ⟨h1, h2, h3, h4⟩ := dec_facts n
  cases e : decDigits n with
  | nil => exact absurd e h3
  | cons b t => exact ⟨b, t ++ r, rfl, h2 b (by simp [e])⟩

def litP (vars : Nat) (bs : List UInt8) : Option (Int × List UInt8) :=
  match numP vars (trimPrefix bs [45]) with
  | none => none
  | some (n, r) => if n = 0 then none else some (2 * ((n : Int) - 1) + bitF (hasPrefix bs [45]), r)

theorem num_odd {x : Int} (h0 : 0 ≤ x) (h : x % 2 = 1) : numF x = -((x.toNat / 2 + 1 : Nat) : Int) := by
  simp only [numF]; rw [if_neg (by omega), if_pos h]; omega
theorem num_even {x : Int} (h0 : 0 ≤ x) (h : ¬ x % 2 = 1) : numF x = ((x.toNat / 2 + 1 : Nat) : Int) := by
  simp only [numF]; rw [if_neg (by omega), if_neg h]; omega

theorem litP_lit {vars : Nat} {x : Int} {r : List UInt8} (h0 : 0 ≤ x) (h1 : x < 2 * vars) (hr : nd r) : litP vars (itoa (numF x) ++ r) = some (x, r) := by
  by_cases h : x % 2 = 1
  · rw [num_odd h0 h, Go.Lib.itoa_neg _ (by omega)]
    have e : 45 :: decDigits (x.toNat / 2 + 1) ++ r = [45] ++ (decDigits (x.toNat / 2 + 1) ++ r) := rfl
    have hp := hp_app [45] (decDigits (x.toNat / 2 + 1) ++ r)
    rw [e]
    unfold litP
    rw [tp_yes hp, hp]
    simp only [List.length_singleton, List.singleton_append, List.drop_succ_cons, List.drop_zero]
    rw [numP_dec (by omega) hr]
    simp [bitF]
    omega
  · rw [num_even h0 h, Go.Lib.itoa_nonneg]
    obtain ⟨b, t, e, hb⟩ := dec_head_dig (n := x.toNat / 2 + 1) (r := r)
    have hp : hasPrefix (decDigits (x.toNat / 2 + 1) ++ r) [45] = false := by
      rw [e, hp_cons]
      simp only [beq_eq_false_iff_ne]
      rintro rfl
      simp [isDig] at hb
    unfold litP
    rw [tp_no hp, hp, numP_dec (by omega) hr]
    simp [bitF]
    omega

theorem litP_some {vars : Nat} {bs r : List UInt8} {x : Int} (h : litP vars bs = some (x, r)) : bs = itoa (numF x) ++ r ∧ 0 ≤ x ∧ x < 2 * vars ∧ nd r := by
  unfold litP at h
  split at h
  · cases h
  rename_i n r' hn
  split at h
  · cases h
  rename_i h0
  obtain ⟨e, hle, hr⟩ := numP_some hn
  simp only [Option.some.injEq, Prod.mk.injEq] at h
  obtain ⟨rfl, rfl⟩ := h
  cases hp : hasPrefix bs [45]
  · rw [tp_no hp] at e
    simp only [bitF, Bool.false_eq_true, if_false, Int.add_zero]
    refine ⟨?_, by omega, by omega, hr⟩
    have e2 : (2 * ((n : Int) - 1)).toNat / 2 + 1 = n := by omega
    rw [num_even (by omega) (by omega), Go.Lib.itoa_nonneg, e, e2]
  · rw [tp_yes hp] at e
    obtain ⟨q, rfl⟩ := hp_iff.1 hp
    simp at e
    simp only [bitF, if_true]
    refine ⟨?_, by omega, by omega, hr⟩
    have e2 : (2 * ((n : Int) - 1) + 1).toNat / 2 + 1 = n := by omega
    rw [num_odd (by omega) (by omega), Go.Lib.itoa_neg _ (by omega), e, e2]
    rfl

/-! ### A clause -/
def litT (x : Int) : List UInt8 := itoa (numF x) ++ [32]
def clT (c : List Int) : List UInt8 := c.flatMap litT ++ [48, 10]
def okC (vars : Nat) (c : List Int) : Prop := ∀ x ∈ c, 0 ≤ x ∧ x < 2 * vars

def clP (vars : Nat) : Nat → List UInt8 → Option (List Int × List UInt8)
  | 0, _ => none
  | k + 1, bs => if hasPrefix bs [48, 10] = true then some ([], bs.drop 2) else
    match litP vars bs with
    | none => none
    | some (x, r) => if hasPrefix r [32] = true then (clP vars k (r.drop 1)).map (fun p => (x :: p.1, p.2)) else none
def clauseP (vars : Nat) (bs : List UInt8) : Option (List Int × List UInt8) := clP vars (bs.length + 1) bs

theorem nd_blank (r : List UInt8) : nd (32 :: r) := by intro b h; simp at h; subst h; rfl
theorem nd_end (r : List UInt8) : nd (10 :: r) := by intro b h; simp at h; subst h; rfl

/-- No literal begins as a line's end does. -/
theorem lit_not_end {vars : Nat} {x : Int} {r t : List UInt8} (h0 : 0 ≤ x) (h1 : x < 2 * vars) : ¬ itoa (numF x) ++ 32 :: r = [48, 10] ++ t := by
  intro e
  have h2 := litP_lit h0 h1 (nd_blank r)
  rw [e] at h2
  have h3 : hasPrefix ([48, 10] ++ t) [45] = false := rfl
  have h4 : numP vars ([48, 10] ++ t) = some (0, 10 :: t) := by
    have : ([48, 10] ++ t : List UInt8) = decDigits 0 ++ 10 :: t := by rw [Go.Lib.decDigits_one (by omega)]; rfl
    rw [this]; exact numP_dec (by omega) (nd_end t)
  unfold litP at h2
  rw [tp_no h3, h4] at h2
  simp at h2

theorem clP_text {vars : Nat} : ∀ (c : List Int) (k : Nat) (r : List UInt8), okC vars c → (clT c ++ r).length < k → clP vars k (clT c ++ r) = some (c, r)
  | [], 0, r, _, hk => by omega
  | [], k + 1, r, _, hk => by
    have e : clT [] ++ r = [48, 10] ++ r := rfl
    rw [e]
    simp only [clP]
    rw [if_pos (hp_app _ _)]
    simp
  | x :: c, 0, r, _, hk => by omega
  | x :: c, k + 1, r, hc, hk => by
    obtain ⟨x0, x1⟩ := hc x (by simp)
    have e : clT (x :: c) ++ r = itoa (numF x) ++ 32 :: (clT c ++ r) := by simp [clT, litT]
    have ih := clP_text c k r (fun y hy => hc y (by simp [hy])) (by rw [e] at hk; simp at hk ⊢; omega)
    have hne : hasPrefix (itoa (numF x) ++ 32 :: (clT c ++ r)) [48, 10] = false := by
      cases h : hasPrefix (itoa (numF x) ++ 32 :: (clT c ++ r)) [48, 10]
      · rfl
      · obtain ⟨t, ht⟩ := hp_iff.1 h
        exact absurd ht (lit_not_end x0 x1)
    rw [e]
    simp only [clP]
    rw [if_neg (by simp [hne]), litP_lit x0 x1 (nd_blank _)]
    have hb : hasPrefix (32 :: (clT c ++ r)) [32] = true := hp_app [32] _
    simp only []
    rw [if_pos hb]
    simp [ih]

theorem clP_some {vars : Nat} : ∀ {k : Nat} {bs r : List UInt8} {c : List Int}, clP vars k bs = some (c, r) → okC vars c ∧ bs = clT c ++ r
  | 0, bs, r, c, h => by simp [clP] at h
  | k + 1, bs, r, c, h => by
    simp only [clP] at h
    split at h
    · rename_i hp
      obtain ⟨t, rfl⟩ := hp_iff.1 hp
      simp at h
      obtain ⟨rfl, rfl⟩ := h
      exact ⟨fun x hx => by simp at hx, rfl⟩
    · split at h
      · cases h
      · rename_i x r' hx
        split at h
        · rename_i hb
          obtain ⟨t, rfl⟩ := hp_iff.1 hb
          obtain ⟨rfl, x0, x1, _⟩ := litP_some hx
          simp at h
          obtain ⟨c', h1, rfl⟩ := h
          obtain ⟨i1, i2⟩ := clP_some h1
          refine ⟨fun y hy => ?_, ?_⟩
          · rcases List.mem_cons.1 hy with rfl | hy
            · exact ⟨x0, x1⟩
            · exact i1 y hy
          · rw [i2]; simp [clT, litT]
        · cases h

/-! ### All clauses, and the whole text -/
def rowsP (vars : Nat) : Nat → List UInt8 → Option (List (List Int) × List UInt8)
  | 0, bs => some ([], bs)
  | k + 1, bs => match rowsP vars k bs with
    | none => none
    | some (l, r) => match clauseP vars r with
      | none => none
      | some (c, r') => some (l ++ [c], r')

theorem rowsP_text {vars : Nat} : ∀ (n : Nat) (l : List (List Int)) (r : List UInt8), l.length = n → (∀ c ∈ l, okC vars c) → rowsP vars n (l.flatMap clT ++ r) = some (l, r)
  | 0, l, r, hn, _ => by
    have := List.eq_nil_of_length_eq_zero hn
    subst this; rfl
  | n + 1, l, r, hn, hc => by
    have h0 : l ≠ [] := by intro e; subst e; simp at hn
    obtain ⟨l', c, rfl⟩ : ∃ es d, l = es ++ [d] := ⟨_, _, (List.dropLast_concat_getLast h0).symm⟩
    have ih := rowsP_text n l' (clT c ++ r) (by simpa using hn) (fun x hx => hc x (by simp [hx]))
    have e : (l' ++ [c]).flatMap clT ++ r = l'.flatMap clT ++ (clT c ++ r) := by simp
    rw [e]
    simp only [rowsP]
    rw [ih]
    simp only [clauseP]
    rw [clP_text c _ r (hc c (by simp)) (by omega)]

theorem rowsP_some {vars : Nat} : ∀ {n : Nat} {l : List (List Int)} {bs r : List UInt8}, rowsP vars n bs = some (l, r) → l.length = n ∧ (∀ c ∈ l, okC vars c) ∧ bs = l.flatMap clT ++ r
  | 0, l, bs, r, h => by
    simp [rowsP] at h
    obtain ⟨rfl, rfl⟩ := h
    exact ⟨rfl, fun c hc => by simp at hc, rfl⟩
  | n + 1, l, bs, r, h => by
    simp only [rowsP] at h
    split at h
    · cases h
    · rename_i l' r' hl
      split at h
      · cases h
      · rename_i c r'' hcl
        simp at h
        obtain ⟨rfl, rfl⟩ := h
        obtain ⟨i1, i2, i3⟩ := rowsP_some hl
        obtain ⟨j1, j2⟩ := clP_some hcl
        refine ⟨by simp [i1], fun x hx => ?_, by rw [i3, j2]; simp⟩
        rcases List.mem_append.1 hx with hx | hx
        · exact i2 x hx
        · rw [List.mem_singleton] at hx; subst hx; exact j1

theorem rowsP_none {vars : Nat} {bs : List UInt8} : ∀ {n k : Nat}, rowsP vars k bs = none → k ≤ n → rowsP vars n bs = none
  | 0, k, h, hk => by obtain rfl : k = 0 := by omega
                      exact h
  | n + 1, k, h, hk => by
    by_cases e : k = n + 1
    · subst e; exact h
    · have := rowsP_none (n := n) h (by omega)
      simp only [rowsP]; rw [this]

def kindT : List UInt8 := [112, 32, 99, 110, 102, 32]
def headT (v n : Nat) : List UInt8 := kindT ++ (decDigits v ++ 32 :: (decDigits n ++ [10]))
def textT (v : Nat) (l : List (List Int)) : List UInt8 := headT v l.length ++ l.flatMap clT

def headP (bs : List UInt8) : Option (Nat × Nat × List UInt8) :=
  if hasPrefix bs kindT = true then
    match numP 1048576 (bs.drop 6) with
    | none => none
    | some (v, r) => if hasPrefix r [32] = true then
        match numP 1048576 (r.drop 1) with
        | none => none
        | some (n, r') => if hasPrefix r' [10] = true then some (v, n, r'.drop 1) else none
      else none
  else none

theorem headP_text {v n : Nat} {r : List UInt8} (hv : v ≤ 1048576) (hn : n ≤ 1048576) : headP (headT v n ++ r) = some (v, n, r) := by
  have e : headT v n ++ r = kindT ++ (decDigits v ++ 32 :: (decDigits n ++ 10 :: r)) := by simp [headT]
  have hp := hp_app kindT (decDigits v ++ 32 :: (decDigits n ++ 10 :: r))
  unfold headP
  rw [e, if_pos hp, show (kindT ++ (decDigits v ++ 32 :: (decDigits n ++ 10 :: r))).drop 6 = decDigits v ++ 32 :: (decDigits n ++ 10 :: r) from rfl, numP_dec hv (nd_blank _)]
  have hb : hasPrefix (32 :: (decDigits n ++ 10 :: r)) [32] = true := hp_app [32] _
  have he : hasPrefix (10 :: r) [10] = true := hp_app [10] _
  simp only []
  rw [if_pos hb, show (32 :: (decDigits n ++ 10 :: r)).drop 1 = decDigits n ++ 10 :: r from rfl, numP_dec hn (nd_end _)]
  simp only []
  rw [if_pos he]
  rfl

theorem headP_some {v n : Nat} {bs r : List UInt8} (h : headP bs = some (v, n, r)) : v ≤ 1048576 ∧ n ≤ 1048576 ∧ bs = headT v n ++ r := by
  unfold headP at h
  split at h
  · rename_i hp
    obtain ⟨t, rfl⟩ := hp_iff.1 hp
    split at h
    · cases h
    · rename_i v' r1 h1
      split at h
      · rename_i hb
        obtain ⟨t1, rfl⟩ := hp_iff.1 hb
        split at h
        · cases h
        · rename_i n' r2 h2
          split at h
          · rename_i he
            obtain ⟨t2, rfl⟩ := hp_iff.1 he
            obtain ⟨e1, l1, _⟩ := numP_some h1
            obtain ⟨e2, l2, _⟩ := numP_some h2
            simp at h
            obtain ⟨rfl, rfl, rfl⟩ := h
            refine ⟨l1, l2, ?_⟩
            have e3 : (kindT ++ t).drop 6 = t := rfl
            have e4 : ([32] ++ t1 : List UInt8).drop 1 = t1 := rfl
            rw [e3] at e1
            rw [e4] at e2
            rw [e1, e2]; simp [headT]
          · cases h
      · cases h
  · cases h

def readP (s : List UInt8) : Option (Nat × List (List Int)) :=
  match headP s with
  | none => none
  | some (v, n, r) => match rowsP v n r with
    | none => none
    | some (l, r') => if r' = [] then some (v, l) else none

/-- Clauses that may be. -/
def Good (v : Nat) (l : List (List Int)) : Prop := v ≤ 1048576 ∧ l.length ≤ 1048576 ∧ ∀ c ∈ l, okC v c

theorem readP_text {v : Nat} {l : List (List Int)} (h : Good v l) : readP (textT v l) = some (v, l) := by
  unfold readP textT
  rw [headP_text h.1 h.2.1]
  simp only []
  have := rowsP_text (vars := v) l.length l [] rfl h.2.2
  rw [List.append_nil] at this
  rw [this]
  rfl

theorem readP_some {s : List UInt8} {v : Nat} {l : List (List Int)} (h : readP s = some (v, l)) : Good v l ∧ s = textT v l := by
  unfold readP at h
  split at h
  · cases h
  · rename_i v' n r hh
    obtain ⟨h1, h2, rfl⟩ := headP_some hh
    split at h
    · cases h
    · rename_i l' r' hr
      obtain ⟨i1, i2, i3⟩ := rowsP_some hr
      split at h
      · rename_i e
        simp at h
        obtain ⟨rfl, rfl⟩ := h
        subst e
        refine ⟨⟨h1, by omega, i2⟩, ?_⟩
        rw [i3, List.append_nil]; unfold textT; rw [i1]
      · cases h

end Go.Proofs.YtdhkabppcdnfeaaDoor
