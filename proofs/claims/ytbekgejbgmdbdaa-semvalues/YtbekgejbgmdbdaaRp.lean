/-
  Terms reckoned each once, behind their parts: the list of what is still to be done, as plain data.
-/
import Derived.Test.YtbekgejbgmdbdaaPl
namespace Go.Proofs.Ytbekgejbgmdbdaa
open Go.RowKit
set_option linter.unusedVariables false

def inF (H : List Nat) (x : Nat) : Bool := decide (x ∈ H)
/-- Those of the parts that are not held yet. -/
def newF (H : List Nat) (ks : List Int) : List Nat := (ks.filter fun k => !inF H k.toNat).map Int.toNat

theorem newF_step {H : List Nat} {ks : List Int} {q : Nat} {y : Int} (hy : ks[q]? = some y) : newF H (ks.take (q + 1)) = newF H (ks.take q) ++ (if inF H y.toNat then [] else [y.toNat]) := by
  unfold newF
  rw [List.take_add_one, hy]
  cases h : inF H y.toNat <;> simp [List.filter_append, h]
theorem newF_in {H : List Nat} {ks : List Int} {q : Nat} {y : Int} (hy : ks[q]? = some y) (h : inF H y.toNat = true) : newF H (ks.take (q + 1)) = newF H (ks.take q) := by rw [newF_step hy, h]; simp
theorem newF_out {H : List Nat} {ks : List Int} {q : Nat} {y : Int} (hy : ks[q]? = some y) (h : inF H y.toNat = false) : newF H (ks.take (q + 1)) = newF H (ks.take q) ++ [y.toNat] := by rw [newF_step hy, h]; simp
theorem newF_len (H : List Nat) (ks : List Int) : (newF H ks).length ≤ ks.length := by
  unfold newF; rw [List.length_map]; exact List.length_filter_le _ _
theorem newF_mem {H : List Nat} {ks : List Int} {j : Nat} (h : j ∈ newF H ks) : j ∉ H ∧ ∃ k ∈ ks, k.toNat = j := by
  unfold newF at h
  obtain ⟨k, hk, rfl⟩ := List.mem_map.1 h
  obtain ⟨h1, h2⟩ := List.mem_filter.1 hk
  exact ⟨by simpa [inF] using h2, k, h1, rfl⟩
theorem newF_nil {H : List Nat} {ks : List Int} (h : newF H ks = []) {k : Int} (hk : k ∈ ks) : k.toNat ∈ H := by
  by_cases e : k.toNat ∈ H
  · exact e
  · have : k.toNat ∈ newF H ks := List.mem_map.2 ⟨k, List.mem_filter.2 ⟨hk, by simp [inF, e]⟩, rfl⟩
    rw [h] at this; simp at this

def qF (N : List Nd) (H S : List Nat) : Nat := match S.getLast? with
  | none => 3 * N.length
  | some x => if inF H x then 3 * N.length else 3 * x
def tF (N : List Nd) (H S : List Nat) : Nat := match S.getLast? with
  | none => 0
  | some x => if inF H x then N.length + 1 + S.length else x + 1
def muF (N : List Nd) (H S : List Nat) : Nat := (N.length - H.length) * 100000 + tF N H S

structure RI (N : List Nd) (id : Nat) (H S : List Nat) : Prop where
  nd : H.Nodup
  rc : ∀ j ∈ H, Rch N id j
  cl : ∀ j ∈ H, ∀ k ∈ ksF (ndA N j), k.toNat ∈ H
  st : ∀ j ∈ S, Rch N id j
  bt : id ∈ H ∨ ∃ T, S = id :: T
  ln : S.length + qF N H S ≤ 3 * N.length + 1 + 3 * (N.length + 1) * H.length

theorem qF_snoc (N : List Nd) (H S : List Nat) (x : Nat) : qF N H (S ++ [x]) = if inF H x then 3 * N.length else 3 * x := by simp [qF]
theorem tF_snoc (N : List Nd) (H S : List Nat) (x : Nat) : tF N H (S ++ [x]) = if inF H x then N.length + 1 + (S ++ [x]).length else x + 1 := by simp [tF]

theorem nodup_le {H : List Nat} {n : Nat} (h : H.Nodup) (hb : ∀ j ∈ H, j < n) : H.length ≤ n := by
  have p : H.Perm ((List.range n).filter fun j => inF H j) := by
    rw [List.perm_ext_iff_of_nodup h (List.Pairwise.filter _ List.nodup_range)]
    intro a
    simp [inF]
    exact hb a
  have := p.length_eq
  have q := List.length_filter_le (fun j => inF H j) (List.range n)
  simp at q
  omega

section
variable {N : List Nd} {id : Nat} {H S : List Nat} {x : Nat}

theorem RI.start (hi : id < N.length) : RI N id [] [id] := by
  refine ⟨List.nodup_nil, fun j h => by simp at h, fun j h => by simp at h, fun j h => ?_, .inr ⟨[], rfl⟩, ?_⟩
  · simp at h; subst h; exact Rch.refl _ _
  · have := qF_snoc N [] [] id
    simp [inF] at this
    rw [this]; simp; omega

theorem RI.lt (r : Wl N) (g : Gd N) (hi : id < N.length) (h : RI N id H S) : (∀ j ∈ H, j < N.length) ∧ (∀ j ∈ S, j < N.length) ∧ H.length ≤ N.length := by
  have h1 : ∀ j ∈ H, j < N.length := fun j hj => by have := (h.rc j hj).le r g hi; omega
  exact ⟨h1, fun j hj => by have := (h.st j hj).le r g hi; omega, nodup_le h.nd h1⟩

theorem RI.slen (r : Wl N) (g : Gd N) (hi : id < N.length) (hL : N.length ≤ 150) (h : RI N id H S) : S.length ≤ 70000 := by
  have h1 := (h.lt r g hi).2.2
  have h2 := h.ln
  have h3 : 3 * (N.length + 1) * H.length ≤ 453 * 150 := Nat.mul_le_mul (by omega) (by omega)
  omega

theorem RI.pop (r : Wl N) (g : Gd N) (hi : id < N.length) (h : RI N id H (S ++ [x])) (hx : inF H x = true) : RI N id H S ∧ muF N H S < muF N H (S ++ [x]) := by
  have hm : x ∈ H := by simpa [inF] using hx
  have hl := h.ln
  rw [qF_snoc, hx] at hl
  simp at hl
  have hst : ∀ j ∈ S, Rch N id j := fun j hj => h.st j (by simp [hj])
  have hq : qF N H S ≤ 3 * N.length ∧ tF N H S < N.length + 1 + (S ++ [x]).length := by
    unfold qF tF
    cases e : S.getLast? with
    | none => simp <;> omega
    | some y =>
      have hy : y < N.length := by have := (hst y (List.mem_of_getLast? e)).le r g hi; omega
      simp only []
      cases inF H y
      · simp; omega
      · simp
  refine ⟨⟨h.nd, h.rc, h.cl, hst, ?_, by omega⟩, ?_⟩
  · rcases h.bt with h1 | ⟨T, h1⟩
    · exact .inl h1
    · cases S with
      | nil => simp at h1; exact .inl (by rw [← h1.1]; exact hm)
      | cons s S => simp at h1; exact .inr ⟨S, by rw [h1.1]⟩
  · unfold muF
    rw [tF_snoc, hx]
    have := hq.2
    simp at this ⊢
    omega

theorem RI.push (r : Wl N) (g : Gd N) (hi : id < N.length) (h : RI N id H (S ++ [x])) (hx : inF H x = false) (hn : newF H (ksF (ndA N x)) ≠ []) :
    RI N id H (S ++ [x] ++ newF H (ksF (ndA N x))) ∧ muF N H (S ++ [x] ++ newF H (ksF (ndA N x))) < muF N H (S ++ [x]) := by
  have hxr : Rch N id x := h.st x (by simp)
  have hxl : x < N.length := by have := hxr.le r g hi; omega
  have hl := h.ln
  rw [qF_snoc, hx] at hl
  simp at hl
  have hnl : (newF H (ksF (ndA N x))).length ≤ 3 := Nat.le_trans (newF_len _ _) (ks_len _)
  obtain ⟨T, y, hT⟩ : ∃ T y, newF H (ksF (ndA N x)) = T ++ [y] := ⟨_, _, (List.dropLast_concat_getLast hn).symm⟩
  obtain ⟨hyH, k, hk, hky⟩ := newF_mem (H := H) (ks := ksF (ndA N x)) (j := y) (by rw [hT]; simp)
  have hyx : y < x := by
    obtain ⟨k0, k1⟩ := ks_ahead (r.shp g hxl) k hk
    omega
  have hyF : inF H y = false := by simp [inF, hyH]
  refine ⟨⟨h.nd, h.rc, h.cl, fun j hj => ?_, ?_, ?_⟩, ?_⟩
  · rcases List.mem_append.1 hj with hj | hj
    · exact h.st j hj
    · obtain ⟨_, k, hk, rfl⟩ := newF_mem hj
      exact hxr.step hk
  · rcases h.bt with h1 | ⟨T, h1⟩
    · exact .inl h1
    · exact .inr ⟨T ++ newF H (ksF (ndA N x)), by rw [h1]; rfl⟩
  · rw [hT, ← List.append_assoc, qF_snoc, hyF]
    rw [hT] at hnl
    simp at hnl ⊢
    omega
  · unfold muF
    rw [tF_snoc, hx, hT, ← List.append_assoc, tF_snoc, hyF]
    simp
    omega

theorem RI.put (r : Wl N) (g : Gd N) (hi : id < N.length) (hL : N.length ≤ 150) (h : RI N id H (S ++ [x])) (hx : inF H x = false) (hn : newF H (ksF (ndA N x)) = []) :
    RI N id (H ++ [x]) (S ++ [x]) ∧ muF N (H ++ [x]) (S ++ [x]) < muF N H (S ++ [x]) := by
  have hxr : Rch N id x := h.st x (by simp)
  have hxl : x < N.length := by have := hxr.le r g hi; omega
  have hxH : x ∉ H := by simpa [inF] using hx
  have hl := h.ln
  have hsl := h.slen r g hi hL
  rw [qF_snoc, hx] at hl
  have hx2 : inF (H ++ [x]) x = true := by simp [inF]
  have hnd : (H ++ [x]).Nodup := by
    rw [List.nodup_append]
    refine ⟨h.nd, by simp, fun a ha b hb => ?_⟩
    simp at hb; subst hb
    intro e; subst e; exact hxH ha
  have hrc : ∀ j ∈ H ++ [x], Rch N id j := fun j hj => by
    rcases List.mem_append.1 hj with hj | hj
    · exact h.rc j hj
    · simp at hj; subst hj; exact hxr
  have hlen : (H ++ [x]).length ≤ N.length := nodup_le hnd fun j hj => by have := (hrc j hj).le r g hi; omega
  refine ⟨⟨hnd, hrc, fun j hj k hk => ?_, h.st, ?_, ?_⟩, ?_⟩
  · rcases List.mem_append.1 hj with hj | hj
    · exact List.mem_append.2 (.inl (h.cl j hj k hk))
    · simp at hj; subst hj
      exact List.mem_append.2 (.inl (newF_nil hn hk))
  · rcases h.bt with h1 | h1
    · exact .inl (by simp [h1])
    · exact .inr h1
  · rw [qF_snoc, hx2]
    have e : 3 * (N.length + 1) * (H ++ [x]).length = 3 * (N.length + 1) * H.length + 3 * (N.length + 1) := by
      rw [List.length_append]; simp [Nat.mul_add]
    rw [e]
    simp at hl ⊢
    omega
  · unfold muF
    rw [tF_snoc N (H ++ [x]), hx2, tF_snoc N H, hx]
    simp at hlen hsl ⊢
    have e : N.length - H.length = (N.length - (H.length + 1)) + 1 := by omega
    rw [e, Nat.add_mul]
    omega

theorem RI.done (h : RI N id H []) : BelL N id H := by
  have hd : id ∈ H := by
    rcases h.bt with h1 | ⟨T, h1⟩
    · exact h1
    · cases h1
  refine ⟨h.nd, fun j => ⟨h.rc j, fun hj => ?_⟩⟩
  exact hj (fun m => m ∈ H) hd fun m hm k hk => h.cl m hm k hk
end

end Go.Proofs.Ytbekgejbgmdbdaa
