/-
  Unlike terms have unlike texts: plain.
-/
import Derived.Test.YtefielnmlekhaaaDoorTp
namespace Go.Proofs.YtefielnmlekhaaaDoor
open Go.Lib (decDigits)
set_option linter.unusedVariables false

/-! ### digits -/
def isDig (b : UInt8) : Bool := decide (48 ≤ b.toNat) && decide (b.toNat ≤ 57)
def dv (b : UInt8) : Nat := b.toNat - 48
def val (ds : List UInt8) : Nat := ds.foldl (fun a d => 10 * a + dv d) 0
theorem val_snoc (ds : List UInt8) (d : UInt8) : val (ds ++ [d]) = 10 * val ds + dv d := by simp [val]
theorem dig_at {k : Nat} (h : k < 10) : isDig (UInt8.ofNat (48 + k)) = true ∧ dv (UInt8.ofNat (48 + k)) = k := by
  have e : (UInt8.ofNat (48 + k)).toNat = 48 + k := by rw [UInt8.toNat_ofNat']; omega
  refine ⟨?_, ?_⟩
  · simp [isDig]; omega
  · unfold dv; rw [e]; omega
theorem dec_big {u : Nat} (h : ¬ u < 10) : decDigits u = decDigits (u / 10) ++ [UInt8.ofNat (48 + u % 10)] := by rw [decDigits, dif_neg h]
theorem dec_facts (n : Nat) : val (decDigits n) = n ∧ (∀ b ∈ decDigits n, isDig b = true) ∧ decDigits n ≠ [] := by
  induction n using Nat.strongRecOn with
  | _ n ih =>
    by_cases h : n < 10
    · obtain ⟨h1, h2⟩ := dig_at h
      rw [Go.Lib.decDigits_one h]
      generalize UInt8.ofNat (48 + n) = b at h1 h2
      exact ⟨by simp [val, h2], by simp [h1], by simp⟩
    · obtain ⟨i1, i2, i3⟩ := ih (n / 10) (by omega)
      obtain ⟨h1, h2⟩ := dig_at (k := n % 10) (by omega)
      rw [dec_big h]
      refine ⟨by rw [val_snoc, i1, h2]; omega, ?_, by simp⟩
      intro b hb
      rcases List.mem_append.1 hb with hb | hb
      · exact i2 b hb
      · rw [List.mem_singleton] at hb; rw [hb]; exact h1

/-- No digit comes first. -/
def nd (r : List UInt8) : Prop := ∀ b, r.head? = some b → isDig b = false
theorem tw_nd {r : List UInt8} (h : nd r) : r.takeWhile isDig = [] := by
  cases r with
  | nil => rfl
  | cons b r => simp [h b rfl]
theorem tw_app {ds r : List UInt8} (hd : ∀ b ∈ ds, isDig b = true) (h : nd r) : (ds ++ r).takeWhile isDig = ds := by
  rw [List.takeWhile_append_of_pos hd, tw_nd h, List.append_nil]
theorem nd_cons {b : UInt8} (h : isDig b = false) (r : List UInt8) : nd (b :: r) := by intro c hc; simp at hc; subst hc; exact h

/-- A number, and what comes behind it. -/
theorem dgs_cut {x y : Int} (h0 : 0 ≤ x) (h1 : 0 ≤ y) {r s : List UInt8} (hr : nd r) (hs : nd s) (e : dgs x ++ r = dgs y ++ s) : x = y ∧ r = s := by
  obtain ⟨a1, a2, a3⟩ := dec_facts x.toNat
  obtain ⟨b1, b2, b3⟩ := dec_facts y.toNat
  have t := congrArg (List.takeWhile isDig) e
  unfold dgs at t
  rw [tw_app a2 hr, tw_app b2 hs] at t
  have v : x.toNat = y.toNat := by rw [← a1, ← b1, t]
  have hxy : x = y := by omega
  subst hxy
  exact ⟨rfl, List.append_cancel_left e⟩
theorem dgs_head (x : Int) : ∃ b t, dgs x = b :: t ∧ isDig b = true := by
  obtain ⟨a1, a2, a3⟩ := dec_facts x.toNat
  unfold dgs
  cases e : decDigits x.toNat with
  | nil => exact absurd e a3
  | cons b t => exact ⟨b, t, rfl, a2 b (by rw [e]; simp)⟩

/-! ### words -/
theorem word_in {op : Int} (h : (1 ≤ op ∧ op ≤ 16) ∨ (22 ≤ op ∧ op ≤ 26)) : ∃ i : Fin 27, op = (i.val : Int) ∧ ((1 ≤ i.val ∧ i.val ≤ 16) ∨ 22 ≤ i.val) := ⟨⟨op.toNat, by omega⟩, by simp; omega, by simp; omega⟩
theorem word_blank {op : Int} : ∀ b ∈ wordF op, (b != 32) = true := by
  unfold wordF
  split
  · simp
  · generalize op.toNat = i
    rw [List.getD_eq_getElem?_getD]
    by_cases h : i < 27
    · have key : ∀ j : Fin 27, ∀ b ∈ (wdsL[j.val]?.getD []), (b != 32) = true := by decide +kernel
      exact key ⟨i, h⟩
    · rw [List.getElem?_eq_none (by simp [wdsL]; omega)]; simp
theorem word_inj {p q : Int} (hp : (1 ≤ p ∧ p ≤ 16) ∨ (22 ≤ p ∧ p ≤ 26)) (hq : (1 ≤ q ∧ q ≤ 16) ∨ (22 ≤ q ∧ q ≤ 26)) (e : wordF p = wordF q) : p = q := by
  obtain ⟨i, rfl, hi⟩ := word_in hp
  obtain ⟨j, rfl, hj⟩ := word_in hq
  have key : ∀ i j : Fin 27, ((1 ≤ i.val ∧ i.val ≤ 16) ∨ 22 ≤ i.val) → ((1 ≤ j.val ∧ j.val ≤ 16) ∨ 22 ≤ j.val) → wordF (i.val : Int) = wordF (j.val : Int) → i = j := by decide +kernel
  rw [key i j hi hj e]
theorem word_cut {p q : Int} {r s : List UInt8} (e : wordF p ++ 32 :: r = wordF q ++ 32 :: s) : wordF p = wordF q ∧ r = s := by
  have t := congrArg (List.takeWhile fun b => b != 32) e
  rw [List.takeWhile_append_of_pos word_blank, List.takeWhile_append_of_pos word_blank] at t
  have z : ∀ u : List UInt8, (32 :: u).takeWhile (fun b => b != 32) = [] := fun u => by simp
  rw [z, z, List.append_nil, List.append_nil] at t
  refine ⟨t, ?_⟩
  rw [t] at e
  have := List.append_cancel_left e
  simpa using this

/-! ### what a term is, in full -/
def Shq (N : List Nd) (n : Nd) : Prop :=
  (∃ w v, n = ⟨20, w, 0, 0, 0, v⟩ ∧ 0 ≤ w ∧ 0 ≤ v) ∨ (∃ w a, n = ⟨21, w, a, 0, 0, 0⟩ ∧ 0 ≤ w ∧ 0 ≤ a) ∨
  (∃ op a, (op = 15 ∨ op = 16) ∧ n = ⟨op, wdF N a, a, 0, 0, 0⟩) ∨ (∃ op a b, (1 ≤ op ∧ op ≤ 14) ∧ n = ⟨op, opW op (wdF N a), a, b, 0, 0⟩) ∨
  (∃ c a b, n = ⟨22, wdF N a, c, a, b, 0⟩) ∨ (∃ w a lo, n = ⟨23, w, a, lo, 0, 0⟩ ∧ 0 ≤ w ∧ 0 ≤ lo) ∨ (∃ a b, n = ⟨24, wdF N a + wdF N b, a, b, 0, 0⟩) ∨
  (∃ op w a, (op = 25 ∨ op = 26) ∧ n = ⟨op, w, a, 0, 0, 0⟩ ∧ 0 ≤ w)

theorem shq_of {N : List Nd} (g : Gd N) {i : Nat} (hi : i < N.length) {d : Dd} {n : Nd} (h : planD (N.take i) d = .inr n) : Shq N n := by
  obtain ⟨kd, dw, da, db, dc, dx⟩ := d
  have T := fun a => @isN_take N i hi a
  have W := fun a => wdF_bd g a
  unfold planD at h
  simp only [] at h
  split at h
  · unfold constP at h
    split at h
    · rename_i hf
      cases h
      have := fits_bd hf
      exact .inl ⟨_, _, rfl, by omega, (cut_bd dw dx).1⟩
    · cases h
  split at h
  · unfold varP at h
    split at h
    · rename_i hf
      have := fits_bd hf
      split at h
      · cases h
      · rename_i hb
        split at h
        · cases h
        · cases h
          simp at hb
          exact .inr (.inl ⟨_, _, rfl, by omega, hb.1⟩)
    · cases h
  split at h
  · unfold unP at h
    split at h
    · cases h
    · rename_i ho
      split at h
      · rename_i ha
        cases h
        simp only [bne_iff_ne, ne_eq, Bool.and_eq_true, not_and, Decidable.not_not] at ho
        refine .inr (.inr (.inl ⟨da, db, ?_, by rw [(T _ ha).2]⟩))
        by_cases e : da = 15
        · exact .inl e
        · exact .inr (ho e)
      · cases h
  split at h
  · unfold binP at h
    split at h
    · cases h
    · rename_i ho
      split at h
      · rename_i hab
        split at h
        · cases h
        · cases h
          simp at ho hab
          exact .inr (.inr (.inr (.inl ⟨da, db, dc, by omega, by rw [(T _ hab.1).2]⟩)))
      · cases h
  split at h
  · unfold iteP at h
    split at h
    · rename_i hab
      split at h
      · cases h
      · cases h
        simp at hab
        exact .inr (.inr (.inr (.inr (.inl ⟨da, db, dc, by rw [(T _ hab.2.1).2]⟩))))
    · cases h
  split at h
  · unfold extP at h
    split at h
    · rename_i ha
      split at h
      · cases h
      · rename_i hw
        cases h
        simp at hw
        exact .inr (.inr (.inr (.inr (.inr (.inl ⟨dw, da, db, rfl, by omega, hw.2.1⟩)))))
    · cases h
  split at h
  · unfold catP at h
    split at h
    · rename_i hab
      split at h
      · cases h
      · cases h
        simp at hab
        exact .inr (.inr (.inr (.inr (.inr (.inr (.inl ⟨da, db, by rw [(T _ hab.1).2, (T _ hab.2).2]⟩))))))
    · cases h
  · unfold widP at h
    split at h
    · rename_i ha
      split at h
      · cases h
      · rename_i hw
        split at h
        · cases h
        · simp at hw
          rw [(T _ ha).2] at hw
          have := W da
          split at h
          · cases h
            exact .inr (.inr (.inr (.inr (.inr (.inr (.inr ⟨26, dw, da, .inr rfl, rfl, by omega⟩))))))
          · cases h
            exact .inr (.inr (.inr (.inr (.inr (.inr (.inr ⟨25, dw, da, .inl rfl, rfl, by omega⟩))))))
    · cases h

theorem Wl.shq {N : List Nd} (r : Wl N) (g : Gd N) {i : Nat} (hi : i < N.length) : Shq N (ndA N i) := by
  obtain ⟨d, hd⟩ := r.lay i _ (ndA_nat hi)
  exact shq_of g hi hd

theorem Shq.ok {N : List Nd} {n : Nd} (h : Shq N n) (h0 : n.op ≠ 20) (h1 : n.op ≠ 21) : (1 ≤ n.op ∧ n.op ≤ 16) ∨ (22 ≤ n.op ∧ n.op ≤ 26) := by
  rcases h with ⟨w, v, rfl, _⟩ | ⟨w, a, rfl, _⟩ | ⟨op, a, ho, rfl⟩ | ⟨op, a, b, ho, rfl⟩ | ⟨c, a, b, rfl⟩ | ⟨w, a, lo, rfl, _⟩ | ⟨a, b, rfl⟩ | ⟨op, w, a, ho, rfl, _⟩
  all_goals (simp only [] at h0 h1 ⊢; omega)

theorem Shq.nums {N : List Nd} {n : Nd} (h : Shq N n) : ∀ x ∈ numsF n, 0 ≤ x := by
  rcases h with ⟨w, v, rfl, _⟩ | ⟨w, a, rfl, _⟩ | ⟨op, a, ho, rfl⟩ | ⟨op, a, b, ho, rfl⟩ | ⟨c, a, b, rfl⟩ | ⟨w, a, lo, rfl, k⟩ | ⟨a, b, rfl⟩ | ⟨op, w, a, ho, rfl, k⟩
  · intro x hx; simp [numsF] at hx
  · intro x hx; simp [numsF] at hx
  · intro x hx; rcases ho with rfl | rfl <;> simp [numsF] at hx
  · intro x hx; rw [numsF, if_neg (by simp only []; omega), if_neg (by simp only []; omega)] at hx; simp at hx
  · intro x hx; simp [numsF] at hx
  · intro x hx; simp [numsF] at hx; rcases hx with rfl | rfl <;> omega
  · intro x hx; simp [numsF] at hx
  · intro x hx; rcases ho with rfl | rfl <;> (simp [numsF] at hx; subst hx; exact k)

theorem nums_same {n m : Nd} (h : n.op = m.op) : (numsF n).length = (numsF m).length := by
  unfold numsF
  rw [h]
  split
  · rfl
  · split <;> rfl
theorem ks_same {n m : Nd} (h : n.op = m.op) : (ksF n).length = (ksF m).length := by
  unfold ksF
  rw [h]
  split
  · rfl
  · split
    · rfl
    · split <;> rfl
theorem ks_some {n : Nd} (h0 : n.op ≠ 20) (h1 : n.op ≠ 21) : ∃ a t, ksF n = a :: t := by
  unfold ksF
  rw [if_neg (by omega)]
  split
  · exact ⟨_, _, rfl⟩
  · split
    · exact ⟨_, _, rfl⟩
    · exact ⟨_, _, rfl⟩

/-- The operator, the numbers and the parts are the whole term. -/
theorem node_det {N : List Nd} {n m : Nd} (h : Shq N n) (k : Shq N m) (h0 : n.op ≠ 20) (h1 : n.op ≠ 21) (ho : n.op = m.op) (hn : numsF n = numsF m) (hk : ksF n = ksF m) : n = m := by
  have two : ∀ {op w a b c v w2 a2 b2 c2 v2 : Int}, 1 ≤ op → op ≤ 14 → ksF ⟨op, w, a, b, c, v⟩ = ksF ⟨op, w2, a2, b2, c2, v2⟩ → a = a2 ∧ b = b2 := by
    intro op w a b c v w2 a2 b2 c2 v2 e1 e2 e
    unfold ksF at e
    rw [if_neg (by simp only []; omega), if_neg (by simp only []; omega), if_neg (by simp only []; omega), if_neg (by simp only []; omega), if_neg (by simp only []; omega), if_neg (by simp only []; omega)] at e
    simpa using e
  rcases h with ⟨w, v, rfl, _⟩ | ⟨w, a, rfl, _⟩ | ⟨op, a, hop, rfl⟩ | ⟨op, a, b, hop, rfl⟩ | ⟨c, a, b, rfl⟩ | ⟨w, a, lo, rfl, _⟩ | ⟨a, b, rfl⟩ | ⟨op, w, a, hop, rfl, _⟩ <;>
  rcases k with ⟨w2, v2, rfl, _⟩ | ⟨w2, a2, rfl, _⟩ | ⟨op2, a2, hop2, rfl⟩ | ⟨op2, a2, b2, hop2, rfl⟩ | ⟨c2, a2, b2, rfl⟩ | ⟨w2, a2, lo2, rfl, _⟩ | ⟨a2, b2, rfl⟩ | ⟨op2, w2, a2, hop2, rfl, _⟩ <;>
  simp only [] at ho h0 h1 <;> first | (exfalso; omega) | skip
  · subst ho
    rcases hop with rfl | rfl <;> (simp [ksF] at hk; subst hk; rfl)
  · subst ho
    obtain ⟨rfl, rfl⟩ := two hop.1 hop.2 hk
    rfl
  · simp [ksF] at hk
    obtain ⟨rfl, rfl, rfl⟩ := hk
    rfl
  · simp [ksF] at hk
    simp [numsF] at hn
    obtain ⟨rfl, rfl⟩ := hn
    subst hk; rfl
  · simp [ksF] at hk
    obtain ⟨rfl, rfl⟩ := hk
    rfl
  · subst ho
    rcases hop with rfl | rfl <;> (simp [ksF] at hk; simp [numsF] at hn; subst hk hn; rfl)

/-! ### the texts -/
theorem nums_cut : ∀ {xs ys : List Int} {r s : List UInt8}, xs.length = ys.length → (∀ x ∈ xs, 0 ≤ x) → (∀ x ∈ ys, 0 ≤ x) → nd r → nd s → xs.flatMap (fun x => 32 :: dgs x) ++ r = ys.flatMap (fun x => 32 :: dgs x) ++ s → xs = ys ∧ r = s
  | [], [], r, s, _, _, _, _, _, e => ⟨rfl, by simpa using e⟩
  | [], y :: ys, r, s, hl, _, _, _, _, _ => by simp at hl
  | x :: xs, [], r, s, hl, _, _, _, _, _ => by simp at hl
  | x :: xs, y :: ys, r, s, hl, hx, hy, hr, hs, e => by
    have go : ∀ (zs : List Int) (u : List UInt8), nd u → nd (zs.flatMap (fun x => 32 :: dgs x) ++ u) := by
      intro zs u hu
      cases zs with
      | nil => simpa using hu
      | cons z zs => simp only [List.flatMap_cons, List.cons_append]; exact nd_cons (by decide) _
    simp only [List.flatMap_cons, List.cons_append, List.append_assoc, List.cons.injEq, true_and] at e
    obtain ⟨e1, e2⟩ := dgs_cut (hx x (by simp)) (hy y (by simp)) (go _ _ hr) (go _ _ hs) e
    obtain ⟨e3, e4⟩ := nums_cut (by simpa using hl) (fun z hz => hx z (by simp [hz])) (fun z hz => hy z (by simp [hz])) hr hs e2
    exact ⟨by rw [e1, e3], e4⟩

def Apt (N : List Nd) (i : Nat) : Prop := ∀ (k : Nat) (r s : List UInt8), k < N.length → nd r → nd s → TX N i ++ r = TX N k ++ s → i = k ∧ r = s

theorem parts_cut {N : List Nd} : ∀ {xs ys : List Int} {r s : List UInt8}, xs.length = ys.length → (∀ x ∈ xs, ∃ j : Nat, x = j ∧ Apt N j) → (∀ x ∈ ys, ∃ j : Nat, x = j ∧ j < N.length) →
    xs.flatMap (fun x => 32 :: TX N x) ++ 41 :: r = ys.flatMap (fun x => 32 :: TX N x) ++ 41 :: s → xs = ys ∧ r = s
  | [], [], r, s, _, _, _, e => ⟨rfl, by simpa using e⟩
  | [], y :: ys, r, s, hl, _, _, _ => by simp at hl
  | x :: xs, [], r, s, hl, _, _, _ => by simp at hl
  | x :: xs, y :: ys, r, s, hl, hx, hy, e => by
    have go : ∀ (zs : List Int) (u : List UInt8), nd (zs.flatMap (fun x => 32 :: TX N x) ++ 41 :: u) := by
      intro zs u
      cases zs with
      | nil => exact nd_cons (by decide) _
      | cons z zs => simp only [List.flatMap_cons, List.cons_append]; exact nd_cons (by decide) _
    simp only [List.flatMap_cons, List.cons_append, List.append_assoc, List.cons.injEq, true_and] at e
    obtain ⟨i, rfl, hi⟩ := hx x (by simp)
    obtain ⟨k, rfl, hk⟩ := hy y (by simp)
    obtain ⟨e1, e2⟩ := hi k _ _ hk (go _ _) (go _ _) e
    obtain ⟨e3, e4⟩ := parts_cut (by simpa using hl) (fun z hz => hx z (by simp [hz])) (fun z hz => hy z (by simp [hz])) e2
    exact ⟨by rw [e1, e3], e4⟩

theorem TX_head {N : List Nd} (r : Wl N) (g : Gd N) {i : Nat} (hi : i < N.length) : ((ndA N i).op = 20 ∧ ∃ b t, TX N i = b :: t ∧ isDig b = true) ∨ ((ndA N i).op = 21 ∧ ∃ t, TX N i = 120 :: t) ∨ ((ndA N i).op ≠ 20 ∧ (ndA N i).op ≠ 21 ∧ ∃ t, TX N i = 40 :: t) := by
  by_cases h0 : (ndA N i).op = 20
  · obtain ⟨b, t, e, hb⟩ := dgs_head (ndA N i).v
    exact .inl ⟨h0, b, _, by rw [TX_const r g hi h0, e]; rfl, hb⟩
  · by_cases h1 : (ndA N i).op = 21
    · exact .inr (.inl ⟨h1, _, by rw [TX_var r g hi h1]; rfl⟩)
    · exact .inr (.inr ⟨h0, h1, _, by rw [TX_made r g hi h0 h1]; rfl⟩)

theorem same_at {N : List Nd} (r : Wl N) {i k : Nat} (hi : i < N.length) (hk : k < N.length) (e : ndA N i = ndA N k) : i = k := by
  have h1 := ndA_nat hi
  have h2 := ndA_nat hk
  rw [← e] at h2
  exact (List.getElem?_inj hi r.one).1 (h1.trans h2.symm)

theorem made_cut {N : List Nd} {n m : Nd} (hn : Shq N n) (hm : Shq N m) (n0 : n.op ≠ 20) (n1 : n.op ≠ 21) (m0 : m.op ≠ 20) (m1 : m.op ≠ 21) (hx : ∀ x ∈ ksF n, ∃ j : Nat, x = j ∧ Apt N j) (hy : ∀ x ∈ ksF m, ∃ j : Nat, x = j ∧ j < N.length) {r s : List UInt8}
    (e : headF n ++ (ksF n).flatMap (fun a => 32 :: TX N a) ++ [41] ++ r = headF m ++ (ksF m).flatMap (fun a => 32 :: TX N a) ++ [41] ++ s) : n = m ∧ r = s := by
  have tail : ∀ (z : Nd), z.op ≠ 20 → z.op ≠ 21 → ∀ u : List UInt8, ∃ t, (numsF z).flatMap (fun x => 32 :: dgs x) ++ ((ksF z).flatMap (fun a => 32 :: TX N a) ++ 41 :: u) = 32 :: t := by
    intro z z0 z1 u
    obtain ⟨a, t, ek⟩ := ks_some z0 z1
    rw [ek]
    cases numsF z with
    | nil => exact ⟨_, rfl⟩
    | cons x xs => exact ⟨_, rfl⟩
  have ndp : ∀ (z : Nd), z.op ≠ 20 → z.op ≠ 21 → ∀ u : List UInt8, nd ((ksF z).flatMap (fun a => 32 :: TX N a) ++ 41 :: u) := by
    intro z z0 z1 u
    obtain ⟨a, t, ek⟩ := ks_some z0 z1
    rw [ek]
    exact nd_cons (by decide) _
  have e' : wordF n.op ++ ((numsF n).flatMap (fun x => 32 :: dgs x) ++ ((ksF n).flatMap (fun a => 32 :: TX N a) ++ 41 :: r)) = wordF m.op ++ ((numsF m).flatMap (fun x => 32 :: dgs x) ++ ((ksF m).flatMap (fun a => 32 :: TX N a) ++ 41 :: s)) := by
    simpa [headF] using e
  obtain ⟨t1, q1⟩ := tail n n0 n1 r
  obtain ⟨t2, q2⟩ := tail m m0 m1 s
  rw [q1, q2] at e'
  obtain ⟨ew, et⟩ := word_cut e'
  have eo := word_inj (hn.ok n0 n1) (hm.ok m0 m1) ew
  rw [et, ← q2] at q1
  obtain ⟨en, e2⟩ := nums_cut (nums_same eo) hn.nums hm.nums (ndp n n0 n1 r) (ndp m m0 m1 s) q1
  obtain ⟨ek, er⟩ := parts_cut (ks_same eo) hx hy e2
  exact ⟨node_det hn hm n0 n1 eo en ek, er⟩

theorem apart {N : List Nd} (r : Wl N) (g : Gd N) (i : Nat) (hi : i < N.length) : Apt N i := by
  induction i using Nat.strongRecOn with
  | _ i ih =>
    intro k u v hk hu hv e
    have fi := g.ft _ (ndA_mem (isN_nat hi))
    have fk := g.ft _ (ndA_mem (isN_nat hk))
    have wi := g.wd _ (ndA_mem (isN_nat hi))
    have wk := g.wd _ (ndA_mem (isN_nat hk))
    have si := r.shq g hi
    have sk := r.shq g hk
    have dig : ∀ {b : UInt8}, isDig b = true → b ≠ 120 ∧ b ≠ 40 := by
      intro b hb
      constructor
      · rintro rfl; revert hb; decide
      · rintro rfl; revert hb; decide
    rcases TX_head r g hi with ⟨hi0, b, t, ei, hb⟩ | ⟨hi1, t, ei⟩ | ⟨hi0, hi1, t, ei⟩
    · rcases TX_head r g hk with ⟨hk0, b2, t2, ek, hb2⟩ | ⟨hk1, t2, ek⟩ | ⟨hk0, hk1, t2, ek⟩
      · rw [TX_const r g hi hi0, TX_const r g hk hk0] at e
        simp only [List.append_assoc, List.cons_append, List.nil_append] at e
        obtain ⟨e1, e2⟩ := dgs_cut (by have := fi.2.2.2.2.2; omega) (by have := fk.2.2.2.2.2; omega) (nd_cons (by decide) _) (nd_cons (by decide) _) e
        simp only [List.cons.injEq, true_and] at e2
        obtain ⟨e3, e4⟩ := dgs_cut (by omega) (by omega) hu hv e2
        refine ⟨same_at r hi hk ?_, e4⟩
        revert si sk hi0 hk0 e1 e3
        generalize ndA N i = n
        generalize ndA N k = m
        intro si sk hi0 hk0 e1 e3
        rcases si with ⟨w, x, rfl, _⟩ | ⟨w, a, rfl, _⟩ | ⟨op, a, ho, rfl⟩ | ⟨op, a, b, ho, rfl⟩ | ⟨c, a, b, rfl⟩ | ⟨w, a, lo, rfl, _⟩ | ⟨a, b, rfl⟩ | ⟨op, w, a, ho, rfl, _⟩ <;>
        rcases sk with ⟨w2, x2, rfl, _⟩ | ⟨w2, a2, rfl, _⟩ | ⟨op2, a2, ho2, rfl⟩ | ⟨op2, a2, b2, ho2, rfl⟩ | ⟨c2, a2, b2, rfl⟩ | ⟨w2, a2, lo2, rfl, _⟩ | ⟨a2, b2, rfl⟩ | ⟨op2, w2, a2, ho2, rfl, _⟩ <;>
        simp only [] at hi0 hk0 e1 e3 <;> first | (exfalso; omega) | (subst e1 e3; rfl)
      · exfalso
        rw [ei, ek] at e
        simp at e
        exact (dig hb).1 e.1
      · exfalso
        rw [ei, ek] at e
        simp at e
        exact (dig hb).2 e.1
    · rcases TX_head r g hk with ⟨hk0, b2, t2, ek, hb2⟩ | ⟨hk1, t2, ek⟩ | ⟨hk0, hk1, t2, ek⟩
      · exfalso
        rw [ei, ek] at e
        simp at e
        exact (dig hb2).1 e.1.symm
      · rw [TX_var r g hi hi1, TX_var r g hk hk1] at e
        simp only [List.append_assoc, List.cons_append, List.nil_append, List.cons.injEq, true_and] at e
        have vi := g.vr _ (ndA_mem (isN_nat hi)) hi1
        have vk := g.vr _ (ndA_mem (isN_nat hk)) hk1
        obtain ⟨e1, e2⟩ := dgs_cut vi.1 vk.1 (nd_cons (by decide) _) (nd_cons (by decide) _) e
        simp only [List.cons.injEq, true_and] at e2
        obtain ⟨e3, e4⟩ := dgs_cut (by omega) (by omega) hu hv e2
        exact ⟨var_one r g hi hk (by simp [isV, hi1]) (by simp [isV, hk1]) e1, e4⟩
      · exfalso
        rw [ei, ek] at e
        simp at e
    · rcases TX_head r g hk with ⟨hk0, b2, t2, ek, hb2⟩ | ⟨hk1, t2, ek⟩ | ⟨hk0, hk1, t2, ek⟩
      · exfalso
        rw [ei, ek] at e
        simp at e
        exact (dig hb2).2 e.1.symm
      · exfalso
        rw [ei, ek] at e
        simp at e
      · rw [TX_made r g hi hi0 hi1, TX_made r g hk hk0 hk1] at e
        have hx : ∀ x ∈ ksF (ndA N i), ∃ j : Nat, x = j ∧ Apt N j := fun x hx => by
          obtain ⟨x0, x1⟩ := ks_ahead (r.shp g hi) x hx
          exact ⟨x.toNat, by omega, ih _ (by omega) (by omega)⟩
        have hy : ∀ x ∈ ksF (ndA N k), ∃ j : Nat, x = j ∧ j < N.length := fun x hx => by
          obtain ⟨x0, x1⟩ := ks_ahead (r.shp g hk) x hx
          exact ⟨x.toNat, by omega, by omega⟩
        obtain ⟨e1, e2⟩ := made_cut si sk hi0 hi1 hk0 hk1 hx hy e
        exact ⟨same_at r hi hk e1, e2⟩

/-- Two terms that have one text are one. -/
theorem text_one {N : List Nd} (r : Wl N) (g : Gd N) {i k : Nat} (hi : i < N.length) (hk : k < N.length) (e : TX N i = TX N k) : i = k := by
  have hn : nd [] := fun b h => by simp at h
  exact (apart r g i hi k [] [] hk hn hn (by simpa using e)).1

end Go.Proofs.YtefielnmlekhaaaDoor
