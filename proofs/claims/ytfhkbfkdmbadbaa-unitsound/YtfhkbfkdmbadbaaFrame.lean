/-
  What a walk is told of lists that came in.
-/
import Derived.Test.YtfhkbfkdmbadbaaAwake
import Derived.ChangeOld
import Derived.OpenShut
namespace Go.Proofs.Ytfhkbfkdmbadbaa
open Go.RowKit Go.ChangeShapes Go.WideShapes Go.ChangeAt
set_option linter.unusedVariables false

/-- Whatever list of numbers came in. -/
theorem row_of {H : Type} {enc : TypeId × Value → H} {W : World} {base : Nat} {held : Bool} {fuel : Nat} {a : Option Addr} {len cap : Nat} {x : DataW H × List MemPlace}
    (h : DataW.trod enc Try.prog W base (fun _ => true) held fuel 23 (Value.slice a len cap).cells.toList = some x) : ∃ xs, Row W a len cap xs := by
  rcases open_ints Try.underlying23 Try.underlying3 (by kernel_rfl) h with ⟨hcs, _⟩ | ⟨x, l, c, zs, hcs, _, hl, hm, hz, _, hc, hw⟩
  · simp [Value.cells] at hcs
    obtain ⟨rfl, rfl, rfl⟩ := hcs
    exact ⟨[], row_none W⟩
  · simp [Value.cells] at hcs
    obtain ⟨rfl, rfl, rfl⟩ := hcs
    have hz2 : zs.length = cap := by simpa using hz
    obtain ⟨b, off, spot⟩ := x
    refine ⟨zs.take len, by rw [List.length_take]; omega, hl, hm, fun e => by simp at e, fun x hx => wf_i64 (hw x (List.mem_of_mem_take hx)), fun h0 => ?_⟩
    have hspot : spot = none := by simpa [Addr.add] using World.cell?_spot (hc 0 (by omega))
    subst hspot
    refine ⟨b, off, rfl, fun j hj => ?_⟩
    have := hc j (by omega)
    have e : (zs.take len).getD j 0 = zs.getD j 0 := by simp [hj]
    rw [e]
    by_cases h0 : j = 0
    · subst h0; simpa [Addr.add] using this
    · simpa [Addr.add, h0] using this

theorem few_short {xss : List (List Int)} {most : Int} (h : ¬ fewF xss most = 0) : ∀ c ∈ xss, c.length ≤ 40 := by
  intro c hc
  by_cases h1 : most < xss.length
  · exact absurd (by simp only [fewF]; rw [if_pos h1]) h
  · cases h2 : xss.any longF
    · have := List.any_eq_false.1 h2 c hc
      simp [longF] at this; omega
    · exact absurd (by simp only [fewF]; rw [if_neg h1, if_pos h2]) h

theorem same_self (ao bo : Option Addr) (n m cap cbp : Nat) (xs : List Int) (w : World) (h : Row w ao n cap xs) (g : Row w bo m cbp xs) :
    Calls Try.prog 10 #[.slice ao n cap, .slice bo m cbp] w fun e w' => e = .returned (.bool true) ∧ Below w.heap.size w w' := by
  refine (same_any ao bo n m cap cbp xs xs w h g).mono ?_
  rintro e w' ⟨rfl, hb⟩
  exact ⟨by simp [sameF], hb⟩

theorem fst_all {z : List (List Int)} {len : Nat} {B : Nat → Bool} (h : fstN z len B < 0) : ∀ c ∈ z, holdsF c len B = true := by
  intro c hc
  have e := fstN_neg z len B
  rw [decide_eq_true h] at e
  have e2 : z.any (missF len B) = false := by cases q : z.any (missF len B) <;> simp [q] at e ⊢
  have := List.any_eq_false.1 e2 c hc
  simpa [missF] using this

/-- One number of a list, as a list. -/
theorem Row.one {w : World} {b off n c : Nat} {xs : List Int} {k : Nat} {y : Int} (h : Row w (some ⟨b, off, none⟩) n c xs) (hk : k < n) (hy : xs[k]? = some y) : Row w (some ⟨b, off + k, none⟩) 1 (c - k) [y] := by
  have hf := h.2.2.2.2.1 y (List.mem_of_getElem? hy)
  refine ⟨rfl, by have := h.2.1; omega, by have := h.2.2.1; omega, fun e => by simp at e, fun x hx => by rw [List.mem_singleton] at hx; subst hx; exact hf, fun _ => ⟨b, off + k, rfl, fun j hj => ?_⟩⟩
  obtain rfl : j = 0 := by omega
  obtain ⟨b2, off2, e, hc⟩ := h.2.2.2.2.2 (by omega)
  cases e
  rw [Nat.add_zero, hc k hk]
  simp [hy]

theorem hol_step {zs : List Int} {q len : Nat} {B : Nat → Bool} {y : Int} (h : ∀ z ∈ zs.take q, holF z len B = true) (hy : zs[q]? = some y) (he : holF y len B = true) : ∀ z ∈ zs.take (q + 1), holF z len B = true := by
  intro z hz
  rw [take_next hy] at hz
  rcases List.mem_append.1 hz with hz | hz
  · exact h z hz
  · rw [List.mem_singleton] at hz; subst hz; exact he

theorem res_ok {L : List (List Int)} {S xs : List Int} {ok : Bool} (h : Res L S xs ok) (hb : ¬ Bad L S) : ok = true := by
  cases ok
  · exact absurd (res_bad h).1 hb
  · rfl

theorem res_holds {L : List (List Int)} {S xs : List Int} {len : Nat} {B : Nat → Bool} (h : Res L S xs true) (hL : ∀ c ∈ L, holdsF c len B = true) (hS : ∀ x ∈ S, holF x len B = true) : ∀ y ∈ xs, holF y len B = true := by
  rcases h with ⟨h, _⟩ | ⟨_, _, _, h3⟩
  · cases h
  · exact fun y hy => der_holds hL hS ((h3 y).1 hy)

theorem follow_same {L : List (List Int)} {S : List Int} {x : Int} {a b : Bool} (h : a = true ↔ Bad L S ∨ Der L S x) (g : b = true ↔ Bad L S ∨ Der L S x) : a = b := by
  rw [Bool.eq_iff_iff, h, g]

end Go.Proofs.Ytfhkbfkdmbadbaa
