/-
  The word of a term fits its width, and hangs on its own variables alone.
-/
import Derived.Test.YtbekgejbgmdbdaaVo
namespace Go.Proofs.Ytbekgejbgmdbdaa
open Go.RowKit
set_option linter.unusedVariables false

theorem cutF_lt {w : Int} (h1 : 1 ≤ w) (h2 : w ≤ 64) (x : Int) : 0 ≤ cutF w x ∧ cutF w x < 2 ^ w.toNat := by
  obtain ⟨n, rfl, hn1, hn2⟩ := width_nat h1 h2
  exact Wd.cut_lt n x hn1 hn2

theorem pow_mono {a b : Nat} (h : a ≤ b) {x : Int} (hx : x < 2 ^ a) : x < 2 ^ b := Int.lt_of_lt_of_le hx (pow_le a b h)

theorem or_lt {x y : Int} {m : Nat} (hm : m ≤ 64) (x0 : 0 ≤ x) (x1 : x < 2 ^ m) (y0 : 0 ≤ y) (y1 : y < 2 ^ m) : 0 ≤ bits .or .u64 x y ∧ bits .or .u64 x y < 2 ^ m := by
  have hx := pow_le64 m hm
  rw [u64_or x y x0 (by omega) y0 (by omega)]
  have e1 : x.toNat < 2 ^ m := by rw [← pow_cast] at x1; omega
  have e2 : y.toNat < 2 ^ m := by rw [← pow_cast] at y1; omega
  have := Nat.or_lt_two_pow e1 e2
  rw [← pow_cast]
  omega

/-! ### kind by kind -/
section
variable {N : List Nd} {E : List Int} {n : Nd} {ps : List Int}
theorem ks_none (e : n.op = 20 ∨ n.op = 21) : ksF n = [] := by unfold ksF; rw [if_pos e]
theorem ks_ite (e : n.op = 22) : ksF n = [n.a, n.b, n.c] := by unfold ksF; rw [if_neg (by omega), if_pos e]
theorem ks_one (e : n.op = 15 ∨ n.op = 16 ∨ n.op = 23 ∨ n.op = 25 ∨ n.op = 26) : ksF n = [n.a] := by unfold ksF; rw [if_neg (by omega), if_neg (by omega), if_pos e]
theorem ks_two (e : (1 ≤ n.op ∧ n.op ≤ 14) ∨ n.op = 24) : ksF n = [n.a, n.b] := by unfold ksF; rw [if_neg (by omega), if_neg (by omega), if_neg (by omega)]
theorem me_const (e : n.op = 20) : meanF N E n ps = n.v := by unfold meanF; rw [if_pos e]
theorem me_var (e : n.op = 21) : meanF N E n ps = cutF n.wd (enF E n.a) := by unfold meanF; rw [if_neg (by omega), if_pos e]
theorem me_ite (e : n.op = 22) : meanF N E n ps = if ps.getD 0 0 = 1 then ps.getD 1 0 else ps.getD 2 0 := by unfold meanF; rw [if_neg (by omega), if_neg (by omega), if_pos e]
theorem me_ext (e : n.op = 23) : meanF N E n ps = cutF n.wd (ps.getD 0 0 / 2 ^ n.b.toNat) := by unfold meanF; rw [if_neg (by omega), if_neg (by omega), if_neg (by omega), if_pos e]
theorem me_cat (e : n.op = 24) : meanF N E n ps = bits .or .u64 (IntKind.u64.wrap (ps.getD 0 0 * 2 ^ (wdF N n.b).toNat)) (ps.getD 1 0) := by unfold meanF; rw [if_neg (by omega), if_neg (by omega), if_neg (by omega), if_neg (by omega), if_pos e]
theorem me_zext (e : n.op = 25) : meanF N E n ps = ps.getD 0 0 := by unfold meanF; rw [if_neg (by omega), if_neg (by omega), if_neg (by omega), if_neg (by omega), if_neg (by omega), if_pos e]
theorem me_sext (e : n.op = 26) : meanF N E n ps = cutF n.wd (IntKind.u64.wrap (Wd.sgnF (wdF N n.a) (ps.getD 0 0))) := by unfold meanF; rw [if_neg (by omega), if_neg (by omega), if_neg (by omega), if_neg (by omega), if_neg (by omega), if_neg (by omega), if_pos e]
theorem me_un (e : n.op = 15 ∨ n.op = 16) : meanF N E n ps = Wd.unF n.op n.wd (ps.getD 0 0) := by unfold meanF; rw [if_neg (by omega), if_neg (by omega), if_neg (by omega), if_neg (by omega), if_neg (by omega), if_neg (by omega), if_neg (by omega), if_pos e]
theorem me_bin (e : 1 ≤ n.op ∧ n.op ≤ 14) : meanF N E n ps = Wd.binF n.op (wdF N n.a) (ps.getD 0 0) (ps.getD 1 0) := by unfold meanF; rw [if_neg (by omega), if_neg (by omega), if_neg (by omega), if_neg (by omega), if_neg (by omega), if_neg (by omega), if_neg (by omega), if_neg (by omega)]
end

theorem b01_lt (b : Bool) : 0 ≤ Wd.b01 b ∧ Wd.b01 b < 2 := by cases b <;> simp [Wd.b01]

theorem cmp_lt {op w : Int} (a b : Int) (h : 12 ≤ op) (h2 : op ≤ 14) (w1 : 1 ≤ w) (w2 : w ≤ 64) : 0 ≤ Wd.binF op w a b ∧ Wd.binF op w a b < 2 ^ (1 : Int).toNat := by
  have hr : ∃ t, Wd.rawF op w (Wd.cutF w a) (Wd.cutF w b) = Wd.b01 t := by
    unfold Wd.rawF
    by_cases e12 : op = 12
    · exact ⟨_, by rw [if_neg (by omega), if_neg (by omega), if_neg (by omega), if_neg (by omega), if_neg (by omega), if_neg (by omega), if_neg (by omega), if_neg (by omega), if_neg (by omega), if_neg (by omega), if_neg (by omega), if_pos e12]⟩
    · by_cases e13 : op = 13
      · exact ⟨_, by rw [if_neg (by omega), if_neg (by omega), if_neg (by omega), if_neg (by omega), if_neg (by omega), if_neg (by omega), if_neg (by omega), if_neg (by omega), if_neg (by omega), if_neg (by omega), if_neg (by omega), if_neg e12, if_pos e13]⟩
      · exact ⟨_, by rw [if_neg (by omega), if_neg (by omega), if_neg (by omega), if_neg (by omega), if_neg (by omega), if_neg (by omega), if_neg (by omega), if_neg (by omega), if_neg (by omega), if_neg (by omega), if_neg (by omega), if_neg e12, if_neg e13]⟩
  obtain ⟨t, ht⟩ := hr
  unfold Wd.binF
  rw [if_pos (by omega), ht]
  obtain ⟨n, rfl, hn1, hn2⟩ := width_nat w1 w2
  have hb := b01_lt t
  have h2n : (2 : Int) ≤ 2 ^ n := by have := pow_le 1 n hn1; simpa using this
  rw [Wd.cut_id n _ hn1 hn2 hb.1 (by omega)]
  exact ⟨hb.1, by simpa using hb.2⟩

theorem cat_lt {p q : Int} {a b : Nat} (hab : a + b ≤ 64) (p0 : 0 ≤ p) (p1 : p < 2 ^ a) (q0 : 0 ≤ q) (q1 : q < 2 ^ b) : 0 ≤ bits .or .u64 (IntKind.u64.wrap (p * 2 ^ b)) q ∧ bits .or .u64 (IntKind.u64.wrap (p * 2 ^ b)) q < 2 ^ (a + b) := by
  have hb := pos2 b
  have h1 : p * 2 ^ b < 2 ^ (a + b) := by rw [Int.pow_add]; exact Int.mul_lt_mul_of_pos_right p1 hb
  have h0 : 0 ≤ p * 2 ^ b := Int.mul_nonneg p0 (by omega)
  have h64 := pow_le64 (a + b) hab
  rw [Wd.wrap_id _ h0 (by omega)]
  exact or_lt hab h0 h1 q0 (pow_mono (by omega) q1)

theorem vF_fit {N : List Nd} (r : Wl N) (g : Gd N) (E : List Int) (i : Nat) (hi : i < N.length) : 0 ≤ vF N E i ∧ vF N E i < 2 ^ (wdF N i).toNat := by
  induction i using Nat.strongRecOn with
  | _ i ih =>
    have key : ∀ k, Ahd i k → 0 ≤ vF N E k ∧ vF N E k < 2 ^ (wdF N k).toNat := by
      intro k hk
      obtain ⟨h0, h1⟩ := hk
      obtain ⟨j, rfl⟩ := Int.eq_ofNat_of_zero_le h0
      exact ih j (by omega) (by omega)
    rw [vF_eq r g E hi]
    have hw : wdF N (i : Int) = (ndA N i).wd := rfl
    rw [hw]
    have hS := r.shp g hi
    have hB := g.wd _ (ndA_mem (isN_nat hi))
    revert hS hB
    generalize ndA N i = n
    intro hS hB
    rcases hS with ⟨e, h1, x, h2⟩ | ⟨e, h1, _⟩ | ⟨e, h1, h2⟩ | ⟨e, h1, h2, h3, h4⟩ | ⟨e, h1, h2, h3, h4, h5⟩ | ⟨e, h1, h2, h3⟩ | ⟨e, h1, h2, h3, h4⟩ | ⟨e, h1, h2, h3⟩
    · rw [me_const e, h2]; exact cutF_lt h1.1 h1.2 _
    · rw [me_var e]; exact cutF_lt h1.1 h1.2 _
    · rw [me_un e]
      unfold Wd.unF
      rcases e with e | e
      · rw [if_pos e]; exact cutF_lt hB.1 hB.2 _
      · rw [if_neg (by omega), if_pos e]; exact cutF_lt hB.1 hB.2 _
    · rw [me_bin e]
      have hwa := wdF_in g (ahd_is (Nat.le_of_lt hi) h1)
      by_cases hc : 12 ≤ n.op
      · have e1 : n.wd = 1 := by rw [h4]; simp [opW, hc]
        rw [e1]
        exact cmp_lt _ _ hc e.2 hwa.1 hwa.2
      · have e1 : n.wd = wdF N n.a := by rw [h4]; simp [opW, hc]
        rw [e1]
        unfold Wd.binF
        rw [if_pos e]
        exact cutF_lt hwa.1 hwa.2 _
    · rw [me_ite e, ks_ite e]
      have k2 := key _ h2
      have k3 := key _ h3
      rw [h4] at k2
      rw [h5] at k3
      simp only [List.map_cons, List.map_nil, List.getD_cons_zero, List.getD_cons_succ]
      split
      · exact k2
      · exact k3
    · rw [me_ext e]; exact cutF_lt hB.1 hB.2 _
    · rw [me_cat e, ks_two (.inr e)]
      simp only [List.map_cons, List.map_nil, List.getD_cons_zero, List.getD_cons_succ]
      have k1 := key _ h1
      have k2 := key _ h2
      have b1 := wdF_in g (ahd_is (Nat.le_of_lt hi) h1)
      have b2 := wdF_in g (ahd_is (Nat.le_of_lt hi) h2)
      have e2 : n.wd.toNat = (wdF N n.a).toNat + (wdF N n.b).toNat := by omega
      rw [e2]
      exact cat_lt (by omega) k1.1 k1.2 k2.1 k2.2
    · have k1 := key _ h1
      rcases e with e | e
      · rw [me_zext e, ks_one (by omega)]
        simp only [List.map_cons, List.map_nil, List.getD_cons_zero]
        exact ⟨k1.1, pow_mono (by omega) k1.2⟩
      · rw [me_sext e]; exact cutF_lt hB.1 hB.2 _

theorem vF_wd {N : List Nd} (r : Wl N) (g : Gd N) (E : List Int) (i : Nat) (hi : i < N.length) : Wd64 (vF N E i) := by
  have h := vF_fit r g E i hi
  have hw := wdF_in g (isN_nat hi)
  have := pow_le64 (wdF N (i : Int)).toNat (by omega)
  exact ⟨h.1, by omega⟩

theorem mean_dep {N : List Nd} {E F : List Int} {n : Nd} {ps : List Int} (h : n.op = 21 → enF E n.a = enF F n.a) : meanF N E n ps = meanF N F n ps := by
  unfold meanF
  by_cases e : n.op = 21
  · rw [if_neg (by omega), if_pos e, if_neg (by omega), if_pos e, h e]
  · simp only [e, if_false]

/-- What a term means hangs on its own variables alone. -/
theorem vF_dep {N : List Nd} (r : Wl N) (g : Gd N) (E F : List Int) (i : Nat) (hi : i < N.length) (h : ∀ j, Rch N i j → isV N j = true → enF E (ndA N j).a = enF F (ndA N j).a) : vF N E i = vF N F i := by
  induction i using Nat.strongRecOn with
  | _ i ih =>
    rw [vF_eq r g E hi, vF_eq r g F hi]
    have e : (ksF (ndA N i)).map (vF N E) = (ksF (ndA N i)).map (vF N F) := by
      apply List.map_congr_left
      intro k hk
      obtain ⟨k0, k1⟩ := ks_ahead (r.shp g hi) k hk
      obtain ⟨j, rfl⟩ := Int.eq_ofNat_of_zero_le k0
      refine ih j (by omega) (by omega) fun m hm hv => h m (Rch.head hk ?_) hv
      simpa using hm
    rw [e]
    exact mean_dep fun e => h i (Rch.refl _ _) (by simp [isV, e])

end Go.Proofs.Ytbekgejbgmdbdaa
