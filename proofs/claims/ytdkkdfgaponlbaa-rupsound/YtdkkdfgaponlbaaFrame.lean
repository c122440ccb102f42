/-
  What a walk is told of lists that came in.
-/
import Derived.Test.YtdkkdfgaponlbaaAwake
import Derived.ChangeOld
import Derived.OpenShut
import Derived.Deep.Matrix
import Derived.Deep.Grids
namespace Go.Proofs.Ytdkkdfgaponlbaa
open Go.RowKit Go.ChangeShapes Go.WideShapes Go.ChangeAt
set_option linter.unusedVariables false

/-- Whatever list of clauses came in. -/
theorem grid_of {H : Type} {enc : TypeId × Value → H} {W : World} {base : Nat} {held : Bool} {fuel : Nat} {a : Option Addr} {len cap : Nat} {x : DataW H × List MemPlace}
    (h : DataW.trod enc Try.prog W base (fun _ => true) held fuel 22 (Value.slice a len cap).cells.toList = some x) : ∃ xss, Grid W a len cap xss := by
  rcases Go.Deep.open_int_rows (k := .i64) Try.underlying22 Try.underlying26 Try.underlying3 (by kernel_rfl) (by kernel_rfl) h with ⟨hcs, _⟩ | ⟨ad, l, c, A, L, C, Z, hcs, _, hl, hm, _, hrow⟩
  · simp [Value.cells] at hcs
    obtain ⟨rfl, rfl, rfl⟩ := hcs
    exact ⟨[], rfl, Nat.le_refl _, by unfold maxLen; omega, fun _ => rfl, fun h => by omega⟩
  · simp [Value.cells] at hcs
    obtain ⟨rfl, rfl, rfl⟩ := hcs
    refine ⟨(List.range len).map fun r => (Z r).take (L r), by simp, hl, hm, fun h => by simp at h, fun h0 => ?_⟩
    obtain ⟨b, off, spot⟩ := ad
    have hsp : spot = none := by
      have := (hrow 0 (by omega)).1
      simpa [Addr.add] using World.cell?_spot this
    subst hsp
    refine ⟨b, off, rfl, fun j hj => ?_⟩
    obtain ⟨h1, h2, h3, h4, h5, h6, h7⟩ := hrow j (by omega)
    refine ⟨A j, L j, C j, ?_, ?_⟩
    · by_cases hz : j = 0
      · subst hz; simpa [Addr.add] using h1
      · simpa [Addr.add, hz] using h1
    · have e : ((List.range len).map fun r => (Z r).take (L r)).getD j [] = (Z j).take (L j) := by simp [hj]
      rw [e]
      refine ⟨by simp; omega, h2, h3, h6, fun y hy => wf_i64 (h5 y (List.mem_of_mem_take hy)), fun hp => ?_⟩
      cases ha : A j with
      | none => have := h6 ha; omega
      | some a' =>
        obtain ⟨_, hc⟩ := h7 a' ha
        obtain ⟨b', off', spot'⟩ := a'
        have hsp' : spot' = none := by
          have := hc 0 (by omega)
          simpa [Addr.add] using World.cell?_spot this
        subst hsp'
        refine ⟨b', off', rfl, fun i hi => ?_⟩
        have hi2 := hc i (by omega)
        have e2 : ((Z j).take (L j)).getD i 0 = (Z j).getD i 0 := by simp [hi]
        rw [e2]
        by_cases hz : i = 0
        · subst hz; simpa [Addr.add] using hi2
        · simpa [Addr.add, hz] using hi2

theorem few_len {xss : List (List Int)} {most : Nat} (h : ¬ fewF xss most = 0) : xss.length ≤ most := by
  by_cases hl : (most : Int) < xss.length
  · exact absurd (by simp only [fewF]; rw [if_pos hl]) h
  · omega

/-- Whatever list of numbers came in. -/
theorem row_of {H : Type} {enc : TypeId × Value → H} {W : World} {base : Nat} {held : Bool} {fuel : Nat} {a : Option Addr} {len cap : Nat} {x : DataW H × List MemPlace}
    (h : DataW.trod enc Try.prog W base (fun _ => true) held fuel 26 (Value.slice a len cap).cells.toList = some x) : ∃ xs, Row W a len cap xs := by
  rcases open_ints Try.underlying26 Try.underlying3 (by kernel_rfl) h with ⟨hcs, _⟩ | ⟨x, l, c, zs, hcs, _, hl, hm, hz, _, hc, hw⟩
  · simp [Value.cells] at hcs
    obtain ⟨rfl, rfl, rfl⟩ := hcs
    exact ⟨[], row_none W⟩
  · simp [Value.cells] at hcs
    obtain ⟨rfl, rfl, rfl⟩ := hcs
    have hz2 : zs.length = cap := by simpa using hz
    obtain ⟨b, off, spot⟩ := x
    refine ⟨zs.take len, by rw [List.length_take]; omega, hl, hm, fun e => by simp at e, fun x hx => wf_i64 (hw x (List.mem_of_mem_take hx)), fun h0 => ?_⟩
    have hspot : spot = none := by simpa [Addr.add] using World.cell?_spot (hc 0 (by omega))
    subst hspot
    refine ⟨b, off, rfl, fun j hj => ?_⟩
    have := hc j (by omega)
    have e : (zs.take len).getD j 0 = zs.getD j 0 := by simp [hj]
    rw [e]
    by_cases h0 : j = 0
    · subst h0; simpa [Addr.add] using this
    · simpa [Addr.add, h0] using this

theorem few_short {xss : List (List Int)} {most : Int} (h : ¬ fewF xss most = 0) : ∀ c ∈ xss, c.length ≤ 40 := by
  intro c hc
  by_cases h1 : most < xss.length
  · exact absurd (by simp only [fewF]; rw [if_pos h1]) h
  · cases h2 : xss.any longF
    · have := List.any_eq_false.1 h2 c hc
      simp [longF] at this; omega
    · exact absurd (by simp only [fewF]; rw [if_neg h1, if_pos h2]) h

theorem fst_all {z : List (List Int)} {len : Nat} {B : Nat → Bool} (h : fstN z len B < 0) : ∀ c ∈ z, holdsF c len B = true := by
  intro c hc
  have e := fstN_neg z len B
  rw [decide_eq_true h] at e
  have e2 : z.any (missF len B) = false := by cases q : z.any (missF len B) <;> simp [q] at e ⊢
  have := List.any_eq_false.1 e2 c hc
  simpa [missF] using this

theorem iff_same {a b : Bool} {p : Prop} (h : a = true ↔ p) (g : b = true ↔ p) : a = b := by rw [Bool.eq_iff_iff, h, g]

theorem refutes_at (w : World) (la : Option Addr) (n cap : Nat) (L : List (List Int)) (gl : Grid w la n cap L) (pa : Option Addr) (m pcap : Nat) (P : List (List Int)) (gp : Grid w pa m pcap P) (hn : n ≤ 50) (hm : m ≤ 50) (hl : ∀ c ∈ L, c.length ≤ 100) (hp : ∀ c ∈ P, c.length ≤ 100) :
    Calls Try.prog 11 #[.slice la n cap, .slice pa m pcap] w fun e w' => ∃ b : Bool, e = .returned (.bool b) ∧ Hid (b = true ↔ IsRef L P) ∧ Hid (Below w.heap.size w w') :=
  refutes_any w la n cap L gl pa m pcap P gp hn hm hl hp

theorem rrefutes_at (w : World) (la : Option Addr) (n cap : Nat) (L : List (List Int)) (gl : Grid w la n cap L) (pa : Option Addr) (m pcap : Nat) (P : List (List Int)) (gp : Grid w pa m pcap P) (hn : n ≤ 50) (hm : m ≤ 50) (hl : ∀ c ∈ L, c.length ≤ 100) (hp : ∀ c ∈ P, c.length ≤ 100) :
    Calls Try.prog 12 #[.slice la n cap, .slice pa m pcap] w fun e w' => ∃ b : Bool, e = .returned (.bool b) ∧ Hid (b = true ↔ IsRef L P) ∧ Hid (Below w.heap.size w w') :=
  rrefutes_any w la n cap L gl pa m pcap P gp hn hm hl hp

theorem refutes_no (w : World) (la : Option Addr) (n cap : Nat) (L : List (List Int)) (gl : Grid w la n cap L) (pa : Option Addr) (m pcap : Nat) (P : List (List Int)) (gp : Grid w pa m pcap P) (hn : n ≤ 50) (hm : m ≤ 50) (hl : ∀ c ∈ L, c.length ≤ 100) (hp : ∀ c ∈ P, c.length ≤ 100) (hno : ¬ IsRef L P) :
    Calls Try.prog 11 #[.slice la n cap, .slice pa m pcap] w fun e w' => e = .returned (.bool false) ∧ Hid (Below w.heap.size w w') := by
  refine (refutes_any w la n cap L gl pa m pcap P gp hn hm hl hp).mono ?_
  rintro e w' ⟨t, rfl, ht, hb⟩
  obtain rfl := no_of ht.out hno
  exact ⟨rfl, hb⟩

end Go.Proofs.Ytdkkdfgaponlbaa
