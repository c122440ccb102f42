/-
  A map that tells of terms, by their numbers, what was made of them.
-/
import Derived.Test.YtbekgejbgmdbdaaPl
import Derived.Maps.OwnSet
import Derived.Maps.RangeWalk
namespace Go.Proofs.Ytbekgejbgmdbdaa
open Go.RowKit Go.Maps
set_option linter.unusedVariables false
set_option maxRecDepth 20000

/-- How the elements of a map are read. -/
structure Rdr (α : Type) where
  R : Value → Option (DataW α × List MemPlace)
  mkV : α → Value
  z : α
  T : TypeId
  E : TypeId
  hR : ∀ c, R (mkV c) = some (.held c, [])
  hI : ∀ v y, R v = some y → ∃ c, v = mkV c ∧ y = (.held c, [])
  hT : Try.prog.underlying T = some (.map 3 E)
  hz : ∀ w, (zeroValue E).run Try.prog w = .ok (mkV z) w

def uRd : Value → Option (DataW Int × List MemPlace)
  | .int .u64 x => some (.held x, [])
  | _ => none
def nRd : Value → Option (DataW Nd × List MemPlace)
  | .agg cs => match cs.toList with
    | [.int .i64 a, .int .i64 b, .int .i64 c, .int .i64 d, .int .i64 e, .int .u64 f] => some (.held ⟨a, b, c, d, e, f⟩, [])
    | _ => none
  | _ => none

theorem zero32 (w : World) : (zeroValue 32).run Try.prog w = .ok (.int .u64 0) w := by kernel_rfl
theorem zero61 (w : World) : (zeroValue 61).run Try.prog w = .ok (ndV z6) w := by kernel_rfl

theorem uRd_inv (v : Value) (y : DataW Int × List MemPlace) (h : uRd v = some y) : ∃ c, v = .int .u64 c ∧ y = (.held c, []) := by
  unfold uRd at h
  split at h
  · cases h; exact ⟨_, rfl, rfl⟩
  · cases h
theorem nRd_inv (v : Value) (y : DataW Nd × List MemPlace) (h : nRd v = some y) : ∃ c, v = ndV c ∧ y = (.held c, []) := by
  unfold nRd at h
  split at h
  · rename_i cs
    split at h
    · rename_i a b c d e f hl
      cases h
      refine ⟨⟨a, b, c, d, e, f⟩, ?_, rfl⟩
      unfold ndV
      congr 1
      apply Array.toList_inj.1
      rw [hl]
    · cases h
  · cases h

def uR : Rdr Int := ⟨uRd, Value.int .u64, 0, 62, 32, fun c => rfl, uRd_inv, Try.underlying62, zero32⟩
def nR : Rdr Nd := ⟨nRd, ndV, z6, 68, 61, fun c => rfl, nRd_inv, Try.underlying68, zero61⟩

theorem law3 : Keyed Try.prog 3 := int_keyed Try.underlying3
theorem key3 {x : Int} (h0 : -9223372036854775808 ≤ x) (h1 : x ≤ 9223372036854775807) : keyOf Try.prog 3 (.int .i64 x) = some (.int .i64 x) := keyOf_int_mk Try.underlying3 (wf64 h0 h1)

section
variable {α : Type} {r : Rdr α} {w w' : World} {b : Nat} {H : List Nat} {val : Nat → α}

/-- The map in block b tells of each number of H what was made of it, and of no other. -/
def HeldIs (r : Rdr α) (w : World) (b : Nat) (H : List Nat) (val : Nat → α) : Prop :=
  ∃ D : DataW α, w.ownsMap Try.prog 3 r.R b H.length D ∧ Maps.size D = H.length ∧ ∀ x : Int, (Maps.has D (.int .i64 x) = true ↔ ∃ k ∈ H, x = (k : Nat)) ∧ ∀ k ∈ H, x = (k : Nat) → ∀ zd, D.atKey (.int .i64 x) zd = .held (val k)

theorem HeldIs.made (r : Rdr α) (val : Nat → α) (w : World) : HeldIs r (w.alloc (.map #[] 0)) w.heap.size [] val :=
  ⟨.map [], World.ownsMap_made _ _ _ _, rfl, fun x => ⟨by simp [Maps.has], fun k h => by simp at h⟩⟩

theorem HeldIs.lt (h : HeldIs r w b H val) : b < w.heap.size := by
  obtain ⟨D, h, _⟩ := h; exact h.lt
theorem HeldIs.isMap (h : HeldIs r w b H val) : ∃ es clock, w.heap[b]? = some (.map es clock) := by
  obtain ⟨D, ⟨es, clock, hb, _⟩, _⟩ := h; exact ⟨es, clock, hb⟩
theorem HeldIs.same (h : HeldIs r w b H val) (e : w'.heap[b]? = w.heap[b]?) : HeldIs r w' b H val := by
  obtain ⟨D, ⟨es, clock, hb, q⟩, h2⟩ := h
  exact ⟨D, ⟨es, clock, by rw [e]; exact hb, q⟩, h2⟩
theorem HeldIs.below (h : HeldIs r w b H val) (g : Below w.heap.size w w') : HeldIs r w' b H val := h.same (g.block _ h.lt)
theorem HeldIs.grown (h : HeldIs r w b H val) {row : Option Nat} (g : w.grownBy w' row) (hne : row ≠ some b) : HeldIs r w' b H val := h.same (g.block _ h.lt (fun e => hne e.symm))
theorem HeldIs.ne {cs : Array Value} {t : TypeId} {q : Nat × Nat} {j : Nat} (h : HeldIs r w b H val) (hj : w.heap[j]? = some (.cells cs t q)) : j ≠ b := by
  intro e; subst e
  obtain ⟨es, clock, hb⟩ := h.isMap
  rw [hj] at hb; simp at hb

theorem HeldIs.look_in (h : HeldIs r w b H val) {j : Nat} (hj : j ∈ H) (hb : j ≤ 1000000) : (Instr.lookup r.T (.map (some b)) (.int .i64 j) true).run Try.prog w = .ok (.tuple #[r.mkV (val j), .bool true]) w := by
  obtain ⟨D, h, _, h2⟩ := h
  obtain ⟨v, ps, hr, hv⟩ := h.look_ok law3 r.hT (r.hz w) (r.hR r.z) (key3 (x := (j : Int)) (by omega) (by omega))
  obtain ⟨q1, q2⟩ := h2 (j : Int)
  rw [q2 j hj rfl] at hv
  obtain ⟨c, rfl, hc⟩ := r.hI _ _ hv
  have e : val j = c := by have := congrArg Prod.fst hc; simpa using this
  rw [hr, q1.2 ⟨j, hj, rfl⟩, e]
theorem HeldIs.look_out (h : HeldIs r w b H val) {x : Int} (hx : ∀ k ∈ H, x ≠ (k : Nat)) (h0 : -9223372036854775808 ≤ x) (h1 : x ≤ 9223372036854775807) : (Instr.lookup r.T (.map (some b)) (.int .i64 x) true).run Try.prog w = .ok (.tuple #[r.mkV r.z, .bool false]) w := by
  obtain ⟨D, h, _, h2⟩ := h
  obtain ⟨v, ps, hr, hv⟩ := h.look_ok law3 r.hT (r.hz w) (r.hR r.z) (key3 (x := x) h0 h1)
  obtain ⟨q1, q2⟩ := h2 x
  have hn : Maps.has D (.int .i64 x) = false := by
    cases e : Maps.has D (.int .i64 x)
    · rfl
    · obtain ⟨k, hk, e2⟩ := q1.1 e
      exact absurd e2 (hx k hk)
  rw [atKey_of_not_has hn] at hv
  obtain ⟨c, rfl, hc⟩ := r.hI _ _ hv
  have e : r.z = c := by have := congrArg Prod.fst hc; simpa using this
  rw [hr, hn, e]

theorem HeldIs.put (h : HeldIs r w b H val) {j : Nat} (hj : j ∉ H) (hb : j ≤ 1000000) (hl : H.length ≤ 1000000) : ∃ w', (Instr.mapUpdate r.T (.map (some b)) (.int .i64 j) (r.mkV (val j))).run Try.prog w = .ok () w' ∧ HeldIs r w' b (H ++ [j]) val ∧ w.grownBy w' (some b) := by
  obtain ⟨D, h, hs, h2⟩ := h
  have hm := h.isMap
  have hk := key3 (x := (j : Int)) (by omega) (by omega)
  have hik : WideAt.IsKeyLit (.int .i64 (j : Int)) := law3.key hk
  have hn : Maps.has D (.int .i64 (j : Int)) = false := by
    cases e : Maps.has D (.int .i64 (j : Int))
    · rfl
    · obtain ⟨k, hk, e2⟩ := (h2 _).1.1 e
      have : j = k := by omega
      subst this; exact absurd hk hj
  obtain ⟨w', r1, r2, r3⟩ := h.update law3 r.hT (by unfold maxLen; omega) hk (r.hR (val j))
  refine ⟨w', r1, ⟨_, by simpa using r2, ?_, fun x => ?_⟩, r3⟩
  · rw [size_put (h.tidy law3), hn, hs]; simp
  · by_cases e : x = (j : Int)
    · subst e
      refine ⟨⟨fun _ => ⟨j, by simp, rfl⟩, fun _ => has_put_same hm hik _⟩, fun k hk e zd => ?_⟩
      have : j = k := by omega
      subst this
      exact atKey_put_same hm hik _ _
    · have ne : (Lit.int .i64 x) ≠ .int .i64 (j : Int) := fun c => e (by injection c)
      refine ⟨?_, fun k hk e2 zd => ?_⟩
      · rw [has_put_other ne, (h2 x).1]
        constructor
        · rintro ⟨k, hk, e2⟩; exact ⟨k, by simp [hk], e2⟩
        · rintro ⟨k, hk, e2⟩
          rcases List.mem_append.1 hk with hk | hk
          · exact ⟨k, hk, e2⟩
          · simp at hk; subst hk; exact absurd e2 e
      · rw [atKey_put_other ne]
        rcases List.mem_append.1 hk with hk | hk
        · exact (h2 x).2 k hk e2 zd
        · simp at hk; subst hk; exact absurd e2 e

theorem HeldIs.len (h : HeldIs r w b H val) (ty : TypeId) : (Builtin.len_ #[r.T] ty #[.map (some b)]).run Try.prog w = .ok (.int .i64 H.length) w := by
  obtain ⟨D, h, hs, h2⟩ := h
  rw [h.len r.hT ty, hs]
end

end Go.Proofs.Ytbekgejbgmdbdaa
