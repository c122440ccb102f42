/-
  Lists of clauses, one behind the other; more clauses lose nothing.
-/
import Derived.Test.YtfhkbfkdmbadbaaFrame
import Derived.Laws.AppendOwnNone
namespace Go.Proofs.Ytfhkbfkdmbadbaa
open Go.RowKit
set_option linter.unusedVariables false

theorem Try.info23 : (Try.prog.info? 23).map (fun i => (i.zero, i.size, i.bytes)) = some (some (.slice none 0 0), 1, 24) := by kernel_rfl

/-- The values are lists that lie in memory. -/
def GV (w : World) (vs : List Value) (xss : List (List Int)) : Prop := vs.length = xss.length ∧ ∀ j, j < vs.length → ∃ a m c, vs[j]? = some (.slice a m c) ∧ Row w a m c (xss.getD j [])

theorem GV.keep {w w' : World} {vs : List Value} {xss : List (List Int)} (h : GV w vs xss) (b : Below w.heap.size w w') : GV w' vs xss := by
  refine ⟨h.1, fun j hj => ?_⟩
  obtain ⟨a, m, c, h1, h2⟩ := h.2 j hj
  exact ⟨a, m, c, h1, h2.keep b⟩

theorem Grid.vals {w : World} {ao : Option Addr} {n cap : Nat} {xss : List (List Int)} (h : Grid w ao n cap xss) : ∃ vs, vs.length = n ∧ GV w vs xss ∧ (0 < n → ∃ ad, ao = some ad ∧ ∀ j u, vs[j]? = some u → w.cell? (ad.add j) = some u) := by
  by_cases h0 : 0 < n
  · obtain ⟨b, off, e, hc⟩ := h.2.2.2.2 h0
    refine ⟨(List.range n).map fun j => (w.cell? ⟨b, off + j, none⟩).getD undef, by simp, ⟨by simp [h.1], fun j hj => ?_⟩, fun _ => ⟨_, e, fun j u hj => ?_⟩⟩
    · have hj2 : j < n := by simpa using hj
      obtain ⟨a, m, c, h1, h2⟩ := hc j hj2
      exact ⟨a, m, c, by simp [hj2, h1], h2⟩
    · have hj2 : j < n := by
        have := (List.getElem?_eq_some_iff.1 hj).1; simpa using this
      obtain ⟨a, m, c, h1, h2⟩ := hc j hj2
      simp [hj2, h1] at hj
      rw [← hj, ← h1]
      congr 1
      by_cases hz : j = 0
      · subst hz; rfl
      · simp [Addr.add, hz]
  · refine ⟨[], by simp; omega, ⟨by have := h.1; simp; omega, fun j hj => by simp at hj⟩, fun h => absurd h h0⟩

theorem own_grid {w : World} {B : Nat} {v : Value} {vs : List Value} {xss : List (List Int)} (own : w.ownsRow B 23 1 v vs.length vs) (g : GV w vs xss) : ∃ ao c, v = .slice ao vs.length c ∧ Grid w ao vs.length c xss := by
  rcases own.2 with ⟨rfl, hn⟩ | ⟨gb, cap, cur, rfl, hb, hg, hl, hm, rest⟩
  · rw [hn]
    refine ⟨none, 0, rfl, ⟨by have := g.1; omega, Nat.le_refl _, by unfold maxLen; omega, fun _ => rfl, fun h => by omega⟩⟩
  · refine ⟨_, _, rfl, g.1.symm, hl, hm, fun h => by simp at h, fun _ => ⟨gb, 0, rfl, fun j hj => ?_⟩⟩
    obtain ⟨a, m, c, h1, h2⟩ := g.2 j hj
    have h3 : w.ownsRow B 23 1 (.slice (some ⟨gb, 0, none⟩) vs.length cap) vs.length vs := own
    refine ⟨a, m, c, ?_, h2⟩
    rw [Nat.zero_add, h3.cellAt j (by omega)]
    exact h1

theorem GV.app {w : World} {vs us : List Value} {xss yss : List (List Int)} (h : GV w vs xss) (g : GV w us yss) : GV w (vs ++ us) (xss ++ yss) := by
  refine ⟨by simp [h.1, g.1], fun j hj => ?_⟩
  by_cases hjl : j < vs.length
  · obtain ⟨a, m, c, e1, e2⟩ := h.2 j hjl
    refine ⟨a, m, c, by rw [List.getElem?_append_left hjl]; exact e1, ?_⟩
    have : (xss ++ yss).getD j [] = xss.getD j [] := by
      simp only [List.getD_eq_getElem?_getD]; rw [List.getElem?_append_left (by rw [← h.1]; exact hjl)]
    rw [this]; exact e2
  · have hj2 : j - vs.length < us.length := by simp at hj; omega
    obtain ⟨a, m, c, e1, e2⟩ := g.2 (j - vs.length) hj2
    refine ⟨a, m, c, by rw [List.getElem?_append_right (by omega)]; exact e1, ?_⟩
    have : (xss ++ yss).getD j [] = yss.getD (j - vs.length) [] := by
      simp only [List.getD_eq_getElem?_getD]; rw [List.getElem?_append_right (by rw [← h.1]; omega), ← h.1]
    rw [this]; exact e2

theorem gv_one {w : World} {vs : List Value} {xss : List (List Int)} (h : GV w vs xss) : ∀ u ∈ vs, u.oneCell' = true := by
  intro u hu
  obtain ⟨j, hj, e⟩ := List.mem_iff_getElem.1 hu
  obtain ⟨a, m, c, h3, _⟩ := h.2 j hj
  rw [List.getElem?_eq_getElem hj, e] at h3
  simp only [Option.some.injEq] at h3
  rw [h3]; rfl

/-- A list of clauses that came in, behind a list that the call has made. -/
theorem append_grid {w w0 : World} {ops : Array Oper} {rest : List Oper} {o : Oper} {a : Act} {Q : Exit → Act → World → Prop} (hgd : o.guard = none) (s x : Operand)
    (ho : o.op = .call { callee := .builtin .append, args := #[s, x], argTypes := #[22, 22] }) (k : Nat) (v : Value) (vs : List Value) (hs : a.eval s = v) (own : w.ownsRow w0.heap.size 23 1 v k vs) (bel : Below w0.heap.size w0 w)
    (ao : Option Addr) (n c : Nat) (hx : a.eval x = .slice ao n c) (xss : List (List Int)) (gr : Grid w0 ao n c xss) (hk : k ≤ 1000) (hbd : n ≤ 1000)
    (h : ∀ us v' w', Hid (us.length = n) → Hid (GV w0 us xss) → Hid (w'.ownsRow w0.heap.size 23 1 v' (k + n) (vs ++ us)) → Hid (Below w0.heap.size w0 w') → wpList Try.prog ops Q rest (a.put o.dst v') w') : wpList Try.prog ops Q (o :: rest) a w := by
  obtain ⟨i0, hi, hz0, hz1, hz2⟩ := info_parts Try.info23
  obtain ⟨us, hl, gv, hc⟩ := gr.vals
  have hbel : ∀ {w'}, w.grownBy w' v.ownBlock → Below w0.heap.size w0 w' := fun hg => bel.grown hg bel.size fun j hj => (own.lt j hj).1
  by_cases h0 : n = 0
  · subst h0
    have e : us = [] := List.eq_nil_of_length_eq_zero hl
    subst e
    cases ao with
    | none =>
      have ec := gr.2.2.2.1 rfl
      subst ec
      refine wpList_append_own_none hgd s x 22 ho w0.heap.size 23 i0 1 Try.underlying22 hi v k vs hs own hx ?_
      exact h [] _ _ hl gv (hid (by simpa using own)) bel
    | some ad =>
      refine wpList_append_own (P := Try.prog) (w := w) hgd s x 22 ho w0.heap.size 23 i0 (.slice none 0 0) 1 24 Try.underlying22 hi hz0 hz1 hz2 rfl (by decide) v k vs hs own ad 0 c [] hx rfl (fun j u hj => by simp at hj) (fun u hu => by simp at hu) (by unfold maxLen; omega) (by omega) bel.size ?_
      intro v' w' h1 h2 _
      exact h [] v' w' hl gv (hid h1) (hbel h2)
  · obtain ⟨ad, rfl, hca⟩ := hc (by omega)
    refine wpList_append_own (P := Try.prog) (w := w) hgd s x 22 ho w0.heap.size 23 i0 (.slice none 0 0) 1 24 Try.underlying22 hi hz0 hz1 hz2 rfl (by decide) v k vs hs own ad n c us hx (by rw [hl, Nat.mul_one]) (fun j u hj => ?_) (gv_one gv) (by unfold maxLen; omega) (by omega) bel.size ?_
    · have h1 := hca j u hj
      rw [bel.cell (cell_lt h1)]; exact h1
    · intro v' w' h1 h2 _
      exact h us v' w' hl gv (hid h1) (hbel h2)

theorem own_empty (w0 : World) : (w0.alloc (.cells #[] 23)).ownsRow w0.heap.size 23 1 (.slice (some ⟨w0.heap.size, 0, none⟩) 0 0) 0 [] :=
  ⟨rfl, .inr ⟨w0.heap.size, 0, #[], rfl, Nat.le_refl _, new_same w0 _, Nat.le_refl _, by unfold maxLen; omega, rfl, rfl⟩⟩

theorem append_first {w w0 : World} {ops : Array Oper} {rest : List Oper} {o : Oper} {a : Act} {Q : Exit → Act → World → Prop} (hgd : o.guard = none) (s x : Operand)
    (ho : o.op = .call { callee := .builtin .append, args := #[s, x], argTypes := #[22, 22] }) (hw : w = w0.alloc (.cells #[] 23)) (hs : a.eval s = .slice (some ⟨w0.heap.size, 0, none⟩) 0 0)
    (ao : Option Addr) (n c : Nat) (hx : a.eval x = .slice ao n c) (xss : List (List Int)) (gr : Grid w0 ao n c xss) (hbd : n ≤ 1000)
    (h : ∀ us v' w', Hid (us.length = n) → Hid (GV w0 us xss) → Hid (w'.ownsRow w0.heap.size 23 1 v' n us) → Hid (Below w0.heap.size w0 w') → wpList Try.prog ops Q rest (a.put o.dst v') w') : wpList Try.prog ops Q (o :: rest) a w := by
  subst hw
  refine append_grid (w0 := w0) hgd s x ho 0 _ [] hs (own_empty w0) (one_new w0 _) ao n c hx xss gr (by omega) hbd fun us v' w' h1 h2 h3 h4 => ?_
  exact h us v' w' h1 h2 (hid (by have := h3.out; rwa [Nat.zero_add, List.nil_append] at this)) h4

theorem both_grid {w0 w : World} {v : Value} {n m : Nat} {vs us : List Value} {xss yss : List (List Int)} (h1 : vs.length = n) (g1 : GV w0 vs xss) (h2 : us.length = m) (g2 : GV w0 us yss) (own : w.ownsRow w0.heap.size 23 1 v (n + m) (vs ++ us)) (bel : Below w0.heap.size w0 w) :
    ∃ ao c, v = .slice ao (n + m) c ∧ Hid (Grid w ao (n + m) c (xss ++ yss)) := by
  have el : (vs ++ us).length = n + m := by simp [h1, h2]
  rw [← el] at own ⊢
  obtain ⟨ao, c, e, g⟩ := own_grid own ((g1.keep bel).app (g2.keep bel))
  exact ⟨ao, c, e, g⟩

theorem flat_len3 {L : List (List Int)} (h : ∀ c ∈ L, c.length ≤ 40) : L.flatten.length ≤ L.length * 40 := by
  induction L with
  | nil => simp
  | cons c L ih =>
    have h1 := ih fun d hd => h d (by simp [hd])
    have h2 := h c (by simp)
    simp only [List.flatten_cons, List.length_append, List.length_cons]; omega

/-! ### Close, where it is known whether there is a contradiction -/
theorem close_bad (w : World) (la : Option Addr) (n cap : Nat) (L : List (List Int)) (gr : Grid w la n cap L) (sa : Option Addr) (sn scap : Nat) (S : List Int) (hr : Row w sa sn scap S) (hn : n ≤ 100) (hs : sn ≤ 10000) (hl : ∀ c ∈ L, c.length ≤ 1000) (hb : Bad L S) :
    Calls Try.prog 8 #[.slice la n cap, .slice sa sn scap] w fun e w' => ∃ (ao : Option Addr) (c : Nat), e = .returned (.tuple #[.slice ao 0 c, .bool false]) ∧ Hid (Row w' ao 0 c []) ∧ Hid (Below w.heap.size w w') := by
  refine (close_at w la n cap L gr sa sn scap S hr hn hs hl).mono fun e w' he => ?_
  obtain ⟨ao, m, c, xs, ok, h1, h2, h3, _, h4⟩ := he
  obtain ⟨e1, e2⟩ := res_same h3.out (res_false hb)
  subst e1 e2
  obtain rfl : m = 0 := h2.out.1.symm
  exact ⟨ao, c, h1, h2, h4⟩

theorem close_good (w : World) (la : Option Addr) (n cap : Nat) (L : List (List Int)) (gr : Grid w la n cap L) (sa : Option Addr) (sn scap : Nat) (S : List Int) (hr : Row w sa sn scap S) (hn : n ≤ 100) (hs : sn ≤ 10000) (hl : ∀ c ∈ L, c.length ≤ 1000) (hb : ¬ Bad L S) :
    Calls Try.prog 8 #[.slice la n cap, .slice sa sn scap] w fun e w' => ∃ (ao : Option Addr) (m c : Nat) (xs : List Int), e = .returned (.tuple #[.slice ao m c, .bool true]) ∧ Hid (Row w' ao m c xs) ∧ Hid (Res L S xs true) ∧ Hid (m ≤ (lits L S).length) ∧ Hid (Below w.heap.size w w') := by
  refine (close_at w la n cap L gr sa sn scap S hr hn hs hl).mono fun e w' he => ?_
  obtain ⟨ao, m, c, xs, ok, h1, h2, h3, h5, h4⟩ := he
  obtain rfl := res_ok h3.out hb
  exact ⟨ao, m, c, xs, h1, h2, h3, h5, h4⟩

/-- Close again, from what follows: the same. -/
theorem res_again {L : List (List Int)} {S xs : List Int} (h : Res L S xs true) : Res L xs xs true := by
  rcases h with ⟨h, _⟩ | ⟨_, h1, h2, h3⟩
  · cases h
  · have hs : ∀ x ∈ xs, 0 ≤ x → Der L S x := fun x hx _ => (h3 x).1 hx
    have ht : ∀ x ∈ S, 0 ≤ x → Der L xs x := fun x hx h0 => .base ((h3 x).2 (.base hx h0)) h0
    refine .inr ⟨rfl, fun hb => h1 (bad_mono (fun c hc => hc) hs hb), h2, fun x => (h3 x).trans ⟨fun h => der_mono (fun c hc => hc) ht h, fun h => der_mono (fun c hc => hc) hs h⟩⟩

theorem close_again (w : World) (la : Option Addr) (n cap : Nat) (L : List (List Int)) (gr : Grid w la n cap L) (sa : Option Addr) (sn scap : Nat) (S xs : List Int) (hr : Row w sa sn scap xs) (hn : n ≤ 100) (hs : sn ≤ 10000) (hl : ∀ c ∈ L, c.length ≤ 1000) (hR : Res L S xs true) :
    Calls Try.prog 8 #[.slice la n cap, .slice sa sn scap] w fun e w' => ∃ (ao : Option Addr) (m c : Nat), e = .returned (.tuple #[.slice ao m c, .bool true]) ∧ Hid (Row w' ao m c xs) ∧ Hid (Below w.heap.size w w') := by
  refine (close_at w la n cap L gr sa sn scap xs hr hn hs hl).mono fun e w' he => ?_
  obtain ⟨ao, m, c, ys, ok, h1, h2, h3, h5, h4⟩ := he
  obtain ⟨e1, e2⟩ := res_same h3.out (res_again hR)
  subst e1 e2
  exact ⟨ao, m, c, h1, h2, h4⟩

theorem bad_more {L M : List (List Int)} {S : List Int} (h : Bad L S) : Bad (L ++ M) S :=
  bad_mono (fun c hc => List.mem_append.2 (.inl hc)) (fun x hx h0 => .base hx h0) h

theorem res_within {L M : List (List Int)} {S xs ys : List Int} (h : Res L S xs true) (g : Res (L ++ M) S ys true) : withF xs ys = true := by
  rcases h with ⟨h, _⟩ | ⟨_, _, _, h3⟩
  · cases h
  rcases g with ⟨g, _⟩ | ⟨_, _, _, g3⟩
  · cases g
  simp only [withF, Bool.not_eq_true', List.any_eq_false]
  intro x hx
  have hd : Der (L ++ M) S x := der_mono (fun c hc => List.mem_append.2 (.inl hc)) (fun x hx h0 => .base hx h0) ((h3 x).1 hx)
  rw [(hasF_mem _ _).2 ((g3 x).2 hd)]; simp

end Go.Proofs.Ytfhkbfkdmbadbaa
