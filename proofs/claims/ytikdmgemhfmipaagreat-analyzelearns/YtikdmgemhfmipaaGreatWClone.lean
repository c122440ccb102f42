/-
  slices.Clone, slices.Clip: a list of literals of one's own.
-/
import Derived.Test.YtikdmgemhfmipaaGreatWNew
namespace Go.Proofs.YtikdmgemhfmipaaGreat
open Go.RowKit Go.Maps
set_option linter.unusedVariables false

/-- A list that lies in a block of its own. -/
def Cpy (w w' : World) (ao : Option Addr) (n c : Nat) (xs : List Int) : Prop := U.Row w' ao n c xs ∧ ((ao = none ∧ n = 0 ∧ c = 0) ∨ ∃ b, ao = some ⟨b, 0, none⟩ ∧ Typ w' b 3 ∧ w.heap.size ≤ b)

theorem own_empty (w : World) : U.Own (w.alloc (.cells #[] 3)) w.heap.size (.slice (some ⟨w.heap.size, 0, none⟩) 0 0) [] := by
  refine ⟨⟨by simp, .inr ⟨w.heap.size, 0, #[], rfl, Nat.le_refl _, new_same w _, by simp, by unfold maxLen; omega, by simp, by simp⟩⟩, fun x hx => by simp at hx⟩

theorem own_cl {w w' : World} {v : Value} {xs : List Int} (h : U.Own w' w.heap.size v xs) : ∃ ao c, v = .slice ao xs.length c ∧ Cpy w w' ao xs.length c xs := by
  obtain ⟨ao, c, e, r⟩ := h.row
  refine ⟨ao, c, e, r, ?_⟩
  have h2 := h.1.2
  rcases h2 with ⟨h1, h2⟩ | ⟨g, cap, cur, e2, h1, h2, _⟩
  · rw [e] at h1; simp only [Value.slice.injEq] at h1; exact .inl ⟨h1.1, h2, h1.2.2⟩
  · rw [e] at e2; cases e2; exact .inr ⟨g, rfl, ⟨_, _, h2⟩, h1⟩

theorem clone_is {w : World} {ao : Option Addr} {n c : Nat} {xs : List Int} (row : U.Row w ao n c xs) (hn : n ≤ 1000) :
    Calls Tryz.prog 19 #[.slice ao n c] w fun e w' => ∃ ao' c', e = .returned (.slice ao' n c') ∧ Hid (Cpy w w' ao' n c' xs) ∧ Hid (Below w.heap.size w w') := by
  cases ao with
  | none =>
    have hc := row.2.2.2.1 rfl
    have hnc := row.2.1
    obtain rfl : n = 0 := by omega
    subst hc
    have HR := hid row
    clear row
    have hq := Lib.run_eql_slice_nil (P := Tryz.prog) w 23 3 none 0 0 0 0 Tryz.underlying23
    go_enter Tryz.func19, Tryz.ntmps19
    go_wp2
    go_ret
    exact ⟨none, 0, rfl, ⟨HR.out, .inl ⟨rfl, rfl, rfl⟩⟩, Below.refl _ _⟩
  | some a =>
    have B1 : Below w.heap.size w (w.alloc (.cells #[] 3)) := by go_grown
    have HR : Hid (U.Row (w.alloc (.cells #[] 3)) (some a) n c xs) := hid (row.keep B1)
    have HO := hid (own_empty w)
    have HL := hid row.1
    have HB := hid B1
    clear row B1
    have hq := Lib.run_eql_slice_nil (P := Tryz.prog) w 23 3 (some a) n c 0 0 Tryz.underlying23
    go_enter Tryz.func19, Tryz.ntmps19
    go_wp2_with (at_builtin; refine U.append_ints rfl _ _ rfl w.heap.size _ [] xs rfl HO.out (some a) n c rfl HR.out (by simp; omega) (by simp) ?_; intro v' w' o b)
    go_ret
    obtain ⟨ao', c', rfl, h⟩ := own_cl o.out
    rw [List.nil_append, HL.out] at h
    have hl : ([] ++ xs).length = n := HL.out
    rw [hl]
    exact ⟨ao', c', rfl, h, HB.out.trans b.out⟩

theorem clip_is {w w0 : World} {ao : Option Addr} {n c : Nat} {xs : List Int} (h : Cpy w0 w ao n c xs) :
    Calls Tryz.prog 18 #[.slice ao n c] w fun e w' => e = .returned (.slice ao n n) ∧ w' = w := by
  obtain ⟨row, hh⟩ := h
  have hnc := row.2.1
  have hm := row.max
  have hm2 := row.2.2.1
  unfold maxLen at hm2
  rcases hh with ⟨rfl, rfl, rfl⟩ | ⟨b, rfl, _, _⟩
  · clear row
    go_enter Tryz.func18, Tryz.ntmps18
    go_wp2
    go_ret
    exact ⟨rfl, rfl⟩
  · clear row
    have hd : (n : Int) ≤ c := by omega
    go_enter Tryz.func18, Tryz.ntmps18
    go_wp2
    go_ret
    exact ⟨rfl, rfl⟩

theorem Cpy.full {w w' : World} {ao : Option Addr} {n c : Nat} {xs : List Int} (h : Cpy w w' ao n c xs) : Cpy w w' ao n n xs := by
  obtain ⟨r, h⟩ := h
  have h1 := r.2.1
  have h2 := r.2.2.1
  refine ⟨⟨r.1, Nat.le_refl _, by omega, fun e => by have := r.2.2.2.1 e; omega, r.2.2.2.2⟩, ?_⟩
  rcases h with ⟨a1, a2, a3⟩ | h
  · exact .inl ⟨a1, a2, by omega⟩
  · exact .inr h

theorem Cpy.lit {w w' : World} {ao : Option Addr} {n c : Nat} {xs : List Int} (h : Cpy w w' ao n c xs) : LitRow w' (.slice ao n c) xs ∧ ∀ j, (Value.slice ao n c).ownBlock = some j → 0 < xs.length → w.heap.size ≤ j := by
  obtain ⟨r, h⟩ := h
  refine ⟨⟨ao, n, c, rfl, r, fun h0 => ?_⟩, fun j hj h0 => ?_⟩
  · rcases h with ⟨_, h1, _⟩ | ⟨b, rfl, ht, _⟩
    · omega
    · exact ⟨b, 0, rfl, ht⟩
  · rcases h with ⟨rfl, h1, _⟩ | ⟨b, rfl, ht, hb⟩
    · simp [Value.ownBlock] at hj
    · simp [Value.ownBlock] at hj; omega

theorem Cpy.next {w w1 w' w2 : World} {ao : Option Addr} {n c : Nat} {xs : List Int} (h : Cpy w w' ao n c xs) (b : Below w'.heap.size w' w2) : Cpy w w2 ao n c xs := by
  obtain ⟨r, h⟩ := h
  refine ⟨r.keep b, h.elim .inl (fun ⟨q, e, ht, hb⟩ => .inr ⟨q, e, ht.same (b.block _ ht.lt), hb⟩)⟩

end Go.Proofs.YtikdmgemhfmipaaGreat
