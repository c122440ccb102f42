/-
  Whether two lists of clauses are the same.
-/
import Derived.Test.YtdhkabppcdnfeaaDoorLists
import Derived.Deep.RegionWith
namespace Go.Proofs.YtdhkabppcdnfeaaDoor
open Go.RowKit
set_option linter.unusedVariables false

def allF (xss yss : List (List Int)) : Bool := decide (xss = yss)

theorem all_step {xss yss : List (List Int)} {k : Nat} {y : List Int} (h : xss.take k = yss.take k) (hx : xss[k]? = some y) (hy : yss[k]? = some y) : xss.take (k + 1) = yss.take (k + 1) := by
  rw [List.take_add_one, List.take_add_one, h, hx, hy]

theorem below_draw {w w1 : World} (h : Below w.drew.heap.size w.drew w1) : Below w.heap.size w w1 := ⟨h.os, h.tape, h.output, h.size, h.block⟩

set_option maxHeartbeats 4000000 in
theorem all_any (ao bo : Option Addr) (n m cap cbp : Nat) (xss yss : List (List Int)) (w : World) (h : Grid w ao n cap xss) (g : Grid w bo m cbp yss) :
    Calls Tryd.prog 12 #[.slice ao n cap, .slice bo m cbp] w fun e w' => e = .returned (.bool (allF xss yss)) ∧ Hid (Below w.heap.size w w') := by
  have HR := hid h
  have GR := hid g
  have hm := h.max
  have gm := g.max
  have HN := hid (And.intro h.1 g.1)
  clear h g
  by_cases hne : n = m
  · subst hne
    go_enter Tryd.func12, Tryd.ntmps12
    go_wp2
    go_loopw [5] (fun i wr => ∃ k : Nat, k ≤ n ∧ i = .int .i64 k ∧ Hid (xss.take k = yss.take k) ∧ Hid (Below w.heap.size w wr)) (fun i _ => n - (intOf i).toNat)
    case atStart => exact ⟨0, Nat.zero_le _, rfl, hid rfl, Below.refl _ _⟩
    case round =>
      obtain ⟨k, hk, rfl, hno, hb⟩ := hrel
      by_cases hlt : k < n
      · obtain ⟨b, off, a1, m1, c1, ys, rfl, hc, hy, hr⟩ := (HR.out.keep hb.out).at hlt
        obtain ⟨b2, off2, a2, m2, c2, zs, rfl, hc2, hz, hr2⟩ := (GR.out.keep hb.out).at hlt
        by_cases he : ys = zs
        · subst he
          have HV := hid (all_step hno.out hy.out hz.out)
          have HF : Hid (sameF ys ys = true) := by show _ = _; simp [sameF]
          have same : ∀ W, Below wr.heap.size wr W → Calls Tryd.prog 23 #[.slice a1 m1 c1, .slice a2 m2 c2] W fun e w' => e = .returned (.bool true) ∧ Hid (Below W.heap.size W w') := fun W hW =>
            (same_any a1 a2 m1 m2 c1 c2 ys ys W (hr.out.keep hW) (hr2.out.keep hW)).mono fun e w' ⟨e1, e2⟩ => ⟨by rw [e1, HF.out], e2⟩
          have SM := hid (same wr.drew ⟨rfl, rfl, rfl, Nat.le_refl _, fun _ _ => rfl⟩)
          clear same
          go_wp2
          go_region_with (go_at_call 23; with_reducible (refine SM.out.mono ?_); rintro e w1 ⟨rfl, hb1⟩)
          all_goals go_wp2
          all_goals go_roundw
          all_goals first | exact ⟨k + 1, by omega, by go_num, HV, Below.next hb.out (below_draw hb1.out)⟩ | (simp [intOf]; omega)
        · have HF : Hid (sameF ys zs = false) := by show _ = _; simp [sameF, he]
          have HV : Hid (allF xss yss = false) := by
            show allF xss yss = false
            simp only [allF, decide_eq_false_iff_not]
            rintro rfl
            have := hy.out.symm.trans hz.out
            simp at this; exact he this
          have same : ∀ W, Below wr.heap.size wr W → Calls Tryd.prog 23 #[.slice a1 m1 c1, .slice a2 m2 c2] W fun e w' => e = .returned (.bool false) ∧ Hid (Below W.heap.size W w') := fun W hW =>
            (same_any a1 a2 m1 m2 c1 c2 ys zs W (hr.out.keep hW) (hr2.out.keep hW)).mono fun e w' ⟨e1, e2⟩ => ⟨by rw [e1, HF.out], e2⟩
          have SM := hid (same wr.drew ⟨rfl, rfl, rfl, Nat.le_refl _, fun _ _ => rfl⟩)
          clear same
          go_wp2
          go_region_with (go_at_call 23; with_reducible (refine SM.out.mono ?_); rintro e w1 ⟨rfl, hb1⟩)
          all_goals go_wp2
          all_goals go_ret
          all_goals exact ⟨by rw [HV.out]; rfl, Below.next hb.out (below_draw hb1.out)⟩
      · have HV : Hid (allF xss yss = true) := by
          have e := hno.out
          rw [List.take_of_length_le (by rw [HN.out.1]; omega), List.take_of_length_le (by rw [HN.out.2]; omega)] at e
          show _ = _; simp [allF, e]
        go_wp2
        go_ret
        exact ⟨by rw [HV.out]; rfl, hb⟩
  · have HV : Hid (allF xss yss = false) := by
      show allF xss yss = false
      simp only [allF, decide_eq_false_iff_not]
      rintro rfl
      exact hne (HN.out.1.symm.trans HN.out.2)
    have hne' : ((n : Int) == m) = false := by simp; omega
    go_enter Tryd.func12, Tryd.ntmps12
    go_wp2
    go_ret
    exact ⟨by rw [HV.out]; rfl, Below.refl _ _⟩

theorem all_same (ao bo : Option Addr) (n m cap cbp : Nat) (xss : List (List Int)) (w : World) (h : Grid w ao n cap xss) (g : Grid w bo m cbp xss) :
    Calls Tryd.prog 12 #[.slice ao n cap, .slice bo m cbp] w fun e w' => e = .returned (.bool true) ∧ Hid (Below w.heap.size w w') :=
  (all_any ao bo n m cap cbp xss xss w h g).mono fun e w' ⟨he, hb⟩ => ⟨by rw [he]; simp [allF], hb⟩

end Go.Proofs.YtdhkabppcdnfeaaDoor
