/-
  Back, as the list says.
-/
import Derived.Test.YtimpoagdidnpiaaBack
namespace Go.Proofs.Ytimpoagdidnpiaa
open Go.RowKit
set_option linter.unusedVariables false

theorem lift_al (n : Nat) (ys : List (Nat × Nat)) (h : ∀ y ∈ ys, y.2 / 2 < n) : ∃ zs : List (Al n), zs.map Subtype.val = ys := by
  induction ys with
  | nil => exact ⟨[], rfl⟩
  | cons y ys ih =>
    obtain ⟨zs, e⟩ := ih (fun z hz => h z (by simp [hz]))
    exact ⟨⟨y, h y (by simp)⟩ :: zs, by simp [e]⟩

/-- The literals of a list, the last one first, each with its place. -/
theorem back_list (n : Nat) (D : List E) (h : ∀ e ∈ D, vr e < n) : ∃ zs : List (Al n), zs.length = D.length ∧ zs.map vof = D.reverse.map vr ∧ ∀ (q : Nat) (x : Al n), zs[q]? = some x → x.1.1 + q + 1 = D.length ∧ ∃ e, D[x.1.1]? = some e ∧ e.l = x.1.2 := by
  obtain ⟨zs, hz⟩ := lift_al n (D.reverse.zipIdx.map (fun y => (D.length - 1 - y.2, y.1.l))) (by
    intro y hy
    obtain ⟨⟨e, q⟩, hq, rfl⟩ := List.mem_map.1 hy
    have := List.mem_zipIdx hq
    simp at this
    have he : e ∈ D := by rw [this.2]; exact List.getElem_mem _
    exact h e he)
  have hl : zs.length = D.length := by
    have := congrArg List.length hz
    simpa using this
  refine ⟨zs, hl, ?_, ?_⟩
  · have e1 : zs.map vof = (zs.map Subtype.val).map (fun y => y.2 / 2) := by simp [vof, Function.comp_def]
    rw [e1, hz]
    apply List.ext_getElem
    · simp
    · intro i h1 h2
      simp [vr]
  · intro q x hx
    have hq := (List.getElem?_eq_some_iff.1 hx).1
    have hq' : q < D.length := by omega
    have e1 : (zs.map Subtype.val)[q]? = some x.1 := by simp [hx]
    rw [hz, List.getElem?_map, List.getElem?_zipIdx, List.getElem?_reverse hq', List.getElem?_eq_getElem (by omega)] at e1
    simp only [Option.map_some, Option.some.injEq] at e1
    rw [← e1]
    refine ⟨by simp; omega, ⟨D[D.length - 1 - q], ?_, rfl⟩⟩
    simp only [Nat.zero_add]
    exact List.getElem?_eq_getElem (by omega)

section
variable {k : K} {w : World} {L : List E} {lev : Nat} {p : V}

/-- What is so behind Back. -/
structure BtEnd (k : K) (w : World) (L : List E) (lev : Nat) (p : V) (x : Int) (v : Value) (p' : V) (w' : World) : Prop where
  row : OwnL w' w.heap.size v (backG L lev x)
  trl : Trl k w' (backL L lev x) (backV lev x) p'
  lo : Lo k w w'
  fr : Fr k p p' w w'
  same : p'.l.ownBlock = p.l.ownBlock

theorem back_any (t : Trl k w L lev p) (x : Int) : Calls Try.prog 20 #[.pointer (some ⟨k.OB, 0, none⟩), .int .i64 x] w fun e w' => ∃ v p', e = .returned v ∧ BtEnd k w L lev p x v p' w' := by
  obtain ⟨F, S, s, g, rfl⟩ := id t
  cases hok : backOk S.length x
  · obtain ⟨h1, h2, h3⟩ := back_no (L := L) hok
    have hx : x < 0 ∨ ((castS S).length : Int) ≤ x := by
      simp [backOk] at hok
      simp [castS]
      omega
    refine (back_out s x hx).mono fun e w' h => ?_
    refine ⟨_, p, h.1, ?_, ?_, Lo.below h.2, Fr.below h.2, rfl⟩
    · rw [h3]; exact World.ownsRow_nil _ _ _ _
    · rw [h1, h2]; exact t.below h.2
  · obtain ⟨i, rfl, hi⟩ := backOk_yes hok
    obtain ⟨c, hc⟩ : ∃ c, S[i]? = some c := ⟨_, List.getElem?_eq_getElem hi⟩
    obtain ⟨h1, h2, h3⟩ := g.back_yes hc
    obtain ⟨h4, ⟨e0, h5, _⟩, _⟩ := g.cut i c hc
    have hcl := (List.getElem?_eq_some_iff.1 h5).1
    have hln := g.len
    have hn := s.hn
    have hlL := litsF_len L
    have hsl : (castS S).length = S.length := by simp [castS]
    obtain ⟨b, cap, hp, hcap, hcm⟩ := s.rl.filled (by omega)
    obtain ⟨zs, hz1, hz2, hz3⟩ := back_list k.n (L.drop c) (fun e he => g.lt e (List.mem_of_mem_drop he))
    rw [List.length_drop] at hz1
    have hpl : c + (L.length - c) = (litsF L).length := by omega
    have hll := g.ll
    have key := back_in s i c (L.length - c) b cap (by rw [hsl]; exact hi) (by rw [hsl]; omega) (by simp [castS, hc]) (by rw [hpl]; exact hp) (by rw [hpl]; exact hcap) hcm (by omega) (by omega) zs hz1 (by
      intro q x hx
      obtain ⟨q1, e, q2, q3⟩ := hz3 q x hx
      rw [List.length_drop] at q1
      refine ⟨q1, ?_⟩
      have hr := s.rl
      rw [hp] at hr
      refine hr.at ?_
      rw [List.getElem?_drop] at q2
      simp [litsF, q2, q3])
    refine (callsIn_wide.1 key).mono fun e w' h => ?_
    obtain ⟨v, rfl, r1, r2, p', r3, r4, r5⟩ := h
    refine ⟨v, p', rfl, ?_, ?_, r2, r2.fr r4 r5, r4⟩
    · rw [h3]
      rw [hz2] at r1
      unfold OwnL
      simpa [Function.comp_def] using r1
    · rw [h1, h2]
      refine ⟨_, S.take i, ?_, g.back hc, ?_⟩
      · rw [hz2] at r3
        have e1 : (litsF L).take c = litsF (L.take c) := by simp [litsF, List.map_take]
        have e2 : (castS S).take i = castS (S.take i) := by simp [castS, List.map_take]
        rw [e1, e2] at r3
        exact r3
      · simp; omega

theorem back_is (t : Trl k w L lev p) (x : Int) : Calls Try.prog 20 #[.pointer (some ⟨k.OB, 0, none⟩), .int .i64 x] w fun e w' => ∃ ao n c p', e = .returned (.slice ao n c) ∧ Hid (BtEnd k w L lev p x (.slice ao n c) p' w') ∧ Hid (n = (backG L lev x).length) := by
  refine (back_any t x).mono fun e w' h => ?_
  obtain ⟨v, p', rfl, h⟩ := h
  obtain ⟨ao, c, rfl, _⟩ := (LRow.of_own h.row).shape
  exact ⟨ao, _, c, p', rfl, h, rfl⟩
end

end Go.Proofs.Ytimpoagdidnpiaa
