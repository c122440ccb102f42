/-
  The document's own answers: its list in memory; Var, at, may, Value, Level, Reason, New.
-/
import Derived.Test.YtimpoagdidnpiaaBackt
namespace Go.Proofs.Ytimpoagdidnpiaa
open Go.RowKit
set_option linter.unusedVariables false

theorem Try.info57 : (Try.prog.info? 57).map (fun i => (i.zero, i.size, i.bytes)) = some (some (.agg #[.int .i64 0, .int .i64 0, .int .i64 0]), 3, 24) := by kernel_rfl

def flat (L : List E) : List Value := L.flatMap (fun e => [.int .i64 (e.l : Int), .int .i64 (e.g : Int), .int .i64 e.r])

theorem flat_len (L : List E) : (flat L).length = L.length * 3 := by
  induction L with
  | nil => rfl
  | cons e L ih => simp [flat] at ih ⊢; omega
theorem flat_at {L : List E} {j : Nat} {e : E} (h : L[j]? = some e) : (flat L)[j * 3]? = some (.int .i64 (e.l : Int)) ∧ (flat L)[j * 3 + 1]? = some (.int .i64 (e.g : Int)) ∧ (flat L)[j * 3 + 2]? = some (.int .i64 e.r) := by
  induction L generalizing j with
  | nil => simp at h
  | cons a L ih =>
    have e1 : flat (a :: L) = .int .i64 (a.l : Int) :: .int .i64 (a.g : Int) :: .int .i64 a.r :: flat L := rfl
    cases j with
    | zero => simp at h; subst h; rw [e1]; exact ⟨rfl, rfl, rfl⟩
    | succ j =>
      rw [List.getElem?_cons_succ] at h
      obtain ⟨h1, h2, h3⟩ := ih h
      rw [e1, show (j + 1) * 3 = j * 3 + 3 by omega]
      exact ⟨h1, h2, h3⟩
theorem flat_take (L : List E) (m : Nat) : flat (L.take m) = (flat L).take (m * 3) := by
  induction m generalizing L with
  | zero => simp [flat]
  | succ m ih =>
    cases L with
    | nil => simp [flat]
    | cons a L =>
      have e1 : ∀ L, flat (a :: L) = .int .i64 (a.l : Int) :: .int .i64 (a.g : Int) :: .int .i64 a.r :: flat L := fun _ => rfl
      rw [List.take_succ_cons, e1, e1, ih, show (m + 1) * 3 = m * 3 + 3 by omega]
      rfl
theorem flat_snoc (L : List E) (e : E) : flat (L ++ [e]) = flat L ++ [.int .i64 (e.l : Int), .int .i64 (e.g : Int), .int .i64 e.r] := by simp [flat]
theorem flat_one (L : List E) : ∀ v ∈ flat L, v.oneCell' = true := by
  intro v hv
  obtain ⟨e, _, he⟩ := List.mem_flatMap.1 hv
  simp at he
  rcases he with rfl | rfl | rfl <;> rfl

/-- The document's list, in memory. -/
def RO (w : World) (v : Value) (L : List E) : Prop := w.ownsRow 0 57 3 v L.length (flat L)

theorem own_base {w : World} {base : Nat} {E : TypeId} {sz : Nat} {v : Value} {n : Nat} {xs : List Value} (h : w.ownsRow base E sz v n xs) : w.ownsRow 0 E sz v n xs := own_low h (Nat.zero_le _)

section
variable {w w' : World} {v : Value} {L : List E}
theorem RO.below (s : RO w v L) (b : Below w.heap.size w w') : RO w' v L := own_keep s (grown_below b) (fun j hj => by cases hj)
theorem RO.shape (s : RO w v L) : ∃ ao cap, v = .slice ao L.length cap ∧ L.length ≤ cap ∧ cap ≤ maxLen := by
  rcases s.2 with ⟨rfl, h⟩ | ⟨b, cap, cur, rfl, _, _, h1, h2, _⟩
  · exact ⟨none, 0, by rw [h], by omega, by unfold maxLen; omega⟩
  · exact ⟨_, _, rfl, h1, h2⟩
theorem RO.lt (s : RO w v L) {j : Nat} (h : v.ownBlock = some j) : j < w.heap.size := (own_lt s h).2
theorem RO.at {ao : Option Addr} {n cap j : Nat} {e : E} (s : RO w (.slice ao n cap) L) (h : L[j]? = some e) : ∃ g, ao = some ⟨g, 0, none⟩ ∧ w.cell? ⟨g, j * 3, none⟩ = some (.int .i64 (e.l : Int)) ∧ w.cell? ⟨g, j * 3 + 1, none⟩ = some (.int .i64 (e.g : Int)) ∧ w.cell? ⟨g, j * 3 + 2, none⟩ = some (.int .i64 e.r) := by
  have hj := (List.getElem?_eq_some_iff.1 h).1
  obtain ⟨f1, f2, f3⟩ := flat_at h
  rcases s.2 with ⟨q, q2⟩ | ⟨b, c, cur, q, _, hg, h1, h2, h3, h4⟩
  · omega
  · cases q
    have hx : ∀ i v, i < L.length * 3 → (flat L)[i]? = some v → w.cell? ⟨b, i, none⟩ = some v := by
      intro i v hi hv
      rw [cell_of hg]
      rw [← h4, List.getElem?_take_of_lt hi] at hv
      simpa using hv
    exact ⟨b, rfl, hx _ _ (by omega) f1, hx _ _ (by omega) f2, hx _ _ (by omega) f3⟩
end

/-! ### Var, at, may -/
theorem rvar_nat (m u : Nat) (hm : m / 2 = u) (hu : (m : Int) ≤ 9223372036854775807) (w : World) : Calls Try.prog 34 #[.int .i64 m] w fun e w' => e = .returned (.int .i64 u) ∧ w' = w := by
  have HE : Hid ((m : Int) / 2 = u) := hid (by omega)
  have h0 : ¬ ((m : Int) < 0) := by omega
  clear hm
  go_enter Try.func34, Try.ntmps34
  go_wp2
  go_ret
  exact ⟨by rw [HE.out]; rfl, rfl⟩

/-- The place of a variable. -/
def AtEnd (L : List E) (v i : Int) : Prop := (i = -1 ∧ atF L v = none) ∨ ∃ (q : Nat) (e : E), i = q ∧ L[q]? = some e ∧ atF L v = some e

theorem at_first {L : List E} {v : Int} {q : Nat} {e : E} (h : ∀ (j : Nat) (e : E), j < q → L[j]? = some e → (vr e : Int) ≠ v) (hq : L[q]? = some e) (hv : (vr e : Int) = v) : atF L v = some e := by
  unfold atF
  rw [List.find?_eq_some_iff_getElem]
  have hl := (List.getElem?_eq_some_iff.1 hq).1
  have he : L[q] = e := by
    have := List.getElem?_eq_getElem hl
    rw [this] at hq; exact Option.some.inj hq
  refine ⟨by simp [hv], q, hl, he, fun j hj => ?_⟩
  have := h j L[j] hj (List.getElem?_eq_getElem (by omega))
  simpa using this

theorem at_end {L : List E} {v : Int} (h : ∀ (j : Nat) (e : E), j < L.length → L[j]? = some e → (vr e : Int) ≠ v) : atF L v = none := by
  refine at_none.2 fun e he => ?_
  obtain ⟨j, hj⟩ := List.mem_iff_getElem?.1 he
  exact h j e (List.getElem?_eq_some_iff.1 hj).1 hj

theorem rat_any {w : World} {rv : Value} {L : List E} (s : RO w rv L) (hb : ∀ e ∈ L, e.l ≤ 2097153) (hl : L.length ≤ 1048576) (n lev : Int) (v : Int) :
    Calls Try.prog 29 #[.agg #[.int .i64 n, rv, .int .i64 lev], .int .i64 v] w fun e w' => ∃ i, e = .returned (.int .i64 i) ∧ Hid (AtEnd L v i) ∧ Below w.heap.size w w' := by
  obtain ⟨ao, cap, rfl, _⟩ := s.shape
  have HS := hid s
  have HB := hid hb
  clear s hb
  go_enter Try.func29, Try.ntmps29
  go_wp2
  go_loop [5] (fun i => ∃ q : Nat, q ≤ L.length ∧ i = .int .i64 q ∧ Hid (∀ (j : Nat) (e : E), j < q → L[j]? = some e → (vr e : Int) ≠ v)) (fun i => L.length - (intOf i).toNat)
  case atStart => exact ⟨0, Nat.zero_le _, rfl, hid (fun j e hj => by omega)⟩
  case round =>
    obtain ⟨q, hq, rfl, hno⟩ := hrel
    by_cases hlt : q < L.length
    · have hlt' : (q : Int) < L.length := by omega
      obtain ⟨e, he⟩ : ∃ e, L[q]? = some e := ⟨_, List.getElem?_eq_getElem hlt⟩
      have hbe : (e.l : Int) ≤ 9223372036854775807 := by have := HB.out e (List.mem_of_getElem? he); omega
      obtain ⟨g, rfl, c0, _, _⟩ := (HS.out.below (w' := w.alloc (.cells #[.int .i64 n, .slice ao L.length cap, .int .i64 lev] 28)) (by go_grown)).at he
      obtain ⟨m, hm⟩ : ∃ m, e.l = m := ⟨_, rfl⟩
      rw [hm] at c0 hbe
      obtain ⟨u, hu⟩ : ∃ u, m / 2 = u := ⟨_, rfl⟩
      have HU := hid hu
      have HVR : Hid (vr e = u) := hid (by simp [vr, hm, hu])
      have HE := hid he
      clear hu hm he
      by_cases hv : (u : Int) = v
      · have HA := hid (at_first hno.out HE.out (by rw [HVR.out]; exact hv))
        have HV : Hid (((u : Int) == v) = true) := hid (by simpa using hv)
        subst hv
        go_wp2_with (go_at_call 34; with_reducible (refine (rvar_nat m u HU.out hbe _).mono ?_); rintro e w1 ⟨rfl, rfl⟩)
        go_ret
        exact ⟨_, rfl, hid (.inr ⟨q, _, rfl, HE.out, HA.out⟩), by go_grown⟩
      · have hv' : ((u : Int) == v) = false := by simpa using hv
        have HN : Hid (∀ (j : Nat) (e : E), j < q + 1 → L[j]? = some e → (vr e : Int) ≠ v) := hid (by
          intro j e' hj he'
          by_cases c : j = q
          · subst c; rw [HE.out] at he'; cases he'; rw [HVR.out]; exact hv
          · exact hno.out j e' (by omega) he')
        clear hv
        go_wp2_with (go_at_call 34; with_reducible (refine (rvar_nat m u HU.out hbe _).mono ?_); rintro e w1 ⟨rfl, rfl⟩)
        go_round
        case rel => exact ⟨q + 1, by omega, by go_num, HN⟩
        case measure => simp only [intOf]; omega
    · obtain rfl : q = L.length := by omega
      have HA := hid (at_end hno.out)
      go_wp2
      go_ret
      exact ⟨_, rfl, hid (.inl ⟨rfl, HA.out⟩), by go_grown⟩

end Go.Proofs.Ytimpoagdidnpiaa
