/-
  What holds while gates are made of one another: the told literals, the inputs, what was asked for.
-/
import Derived.Test.YthdiajdphnjdoaaBd
import Derived.Test.YthdiajdphnjdoaaFo
namespace Go.Proofs.Ythdiajdphnjdoaa
open Go.RowKit
set_option linter.unusedVariables false

def arV (r : Ar) : List Value := [.int .i64 r.k, .int .i64 r.a, .int .i64 r.b, .int .i64 r.c]

theorem Try.info34 : (Try.prog.info? 34).map (fun i => (i.zero, i.size, i.bytes)) = some (some (.agg #[.int .i64 0, .int .i64 0, .int .i64 0, .int .i64 0]), 4, 32) := by kernel_rfl

theorem arV_one (r : Ar) : ∀ y ∈ arV r, y.oneCell' = true := by
  intro y hy
  simp only [arV, List.mem_cons, List.not_mem_nil, or_false] at hy
  rcases hy with rfl | rfl | rfl | rfl <;> rfl

theorem arV_at : ∀ {rs : List Ar} {j : Nat} {r : Ar}, rs[j]? = some r → (rs.flatMap arV)[j * 4]? = some (.int .i64 r.k) ∧ (rs.flatMap arV)[j * 4 + 1]? = some (.int .i64 r.a) ∧ (rs.flatMap arV)[j * 4 + 2]? = some (.int .i64 r.b) ∧ (rs.flatMap arV)[j * 4 + 3]? = some (.int .i64 r.c) := by
  intro rs
  induction rs with
  | nil => intro j r h; simp at h
  | cons x xs ih =>
    intro j r h
    cases j with
    | zero => simp at h; subst h; simp [List.flatMap_cons, arV]
    | succ j =>
      have h2 := ih (j := j) (r := r) (by simpa using h)
      rw [List.flatMap_cons]
      have l : (arV x).length = 4 := rfl
      refine ⟨?_, ?_, ?_, ?_⟩
      · rw [List.getElem?_append_right (by rw [l]; omega), l, show (j + 1) * 4 - 4 = j * 4 by omega]; exact h2.1
      · rw [List.getElem?_append_right (by rw [l]; omega), l, show (j + 1) * 4 + 1 - 4 = j * 4 + 1 by omega]; exact h2.2.1
      · rw [List.getElem?_append_right (by rw [l]; omega), l, show (j + 1) * 4 + 2 - 4 = j * 4 + 2 by omega]; exact h2.2.2.1
      · rw [List.getElem?_append_right (by rw [l]; omega), l, show (j + 1) * 4 + 3 - 4 = j * 4 + 3 by omega]; exact h2.2.2.2

/-- The rows of what was asked for, of the call's own. -/
theorem args_of {w : World} {C : Nat} {v : Value} {rs : List Ar} (h : w.ownsRow C 34 4 v rs.length (rs.flatMap arV)) : ∃ ao c, v = .slice ao rs.length c ∧ Args w ao rs.length rs := by
  rcases h.2 with ⟨rfl, hn⟩ | ⟨g, cap, cur, rfl, hb, hg, hl, hm, hs, ht⟩
  · exact ⟨none, 0, by rw [hn], rfl, fun h0 => by omega⟩
  · refine ⟨_, cap, rfl, rfl, fun _ => ⟨g, 0, rfl, fun j r hr => ?_⟩⟩
    have hc := h.cells (g := g) rfl
    have ad : ∀ i, (⟨g, 0, none⟩ : Addr).add i = ⟨g, i, none⟩ := fun i => by
      by_cases hz : i = 0
      · subst hz; rfl
      · simp [Addr.add, hz]
    obtain ⟨e0, e1, e2, e3⟩ := arV_at hr
    have q0 := hc _ _ e0
    have q1 := hc _ _ e1
    have q2 := hc _ _ e2
    have q3 := hc _ _ e3
    rw [ad] at q0 q1 q2 q3
    rw [Nat.zero_add]
    exact ⟨q0, q1, q2, q3⟩

def tOf2 (t i : Value) : Nat → Prop := fun b => t.ownBlock = some b ∨ i.ownBlock = some b

structure LS (wB : World) (gb : Nat) (tr : Nat → Bool) (wr : World) (tv iv av : Value) (ts is : List Int) (rs : List Ar) (n : Nat) (cs : List (List Int)) (val : Nat → Bool) : Prop where
  g : Good n cs val is
  h : Gt ⟨wB.heap.size, tOf2 tv iv⟩ gb wr n cs
  ot : Own wr wB.heap.size tv ts
  oi : Own wr wB.heap.size iv is
  oa : wr.ownsRow wB.heap.size 34 4 av rs.length (rs.flatMap arV)
  ne : ∀ j, tv.ownBlock = some j → iv.ownBlock ≠ some j
  ln : ts.length = rs.length
  sy : ∀ (j : Nat) (x : Int) (r : Ar), ts[j]? = some x → rs[j]? = some r → Says n val x r
  rt : ∀ x ∈ ts, rng n x
  ev : ∀ (j : Nat) (x : Int), is[j]? = some x → x % 2 = 0 ∧ hd val x = !tr j
  be : Below wB.heap.size wB wr

section
variable {wB wr w' w2 w3 w4 : World} {gb : Nat} {tr : Nat → Bool} {tv iv av tv' iv' av' : Value} {ts is : List Int} {rs : List Ar} {n n' : Nat} {cs cs' : List (List Int)} {val val' : Nat → Bool}

theorem own_keep2 {w w' : World} {base : Nat} {E : TypeId} {sz : Nat} {v : Value} {n : Nat} {xs : List Value} {r : Option Nat} (h : w.ownsRow base E sz v n xs) (g : w.grownBy w' r)
    (hr : ∀ j, v.ownBlock = some j → r ≠ some j) : w'.ownsRow base E sz v n xs := by
  refine ⟨h.1, ?_⟩
  rcases h.2 with h2 | ⟨b, cap, cur, rfl, hb, hg, rest⟩
  · exact .inl h2
  · refine .inr ⟨b, cap, cur, rfl, hb, ?_, rest⟩
    rw [g.block b (blk_lt hg) (fun e => hr b rfl e.symm)]; exact hg

theorem own_typ34 {w : World} {C : Nat} {v : Value} {n : Nat} {xs : List Value} (h : w.ownsRow C 34 4 v n xs) {j : Nat} (hj : v.ownBlock = some j) : Typ w j 34 := by
  rcases h.2 with ⟨rfl, hn⟩ | ⟨g, cap, cur, rfl, hb, hg, _⟩
  · simp [Value.ownBlock] at hj
  · simp [Value.ownBlock] at hj; subst hj; exact typ_of hg

theorem Typ.one {w : World} {j : Nat} {T T' : TypeId} (h : Typ w j T) (g : Typ w j T') : T = T' := by
  obtain ⟨c, f, h⟩ := h
  obtain ⟨c', f', g⟩ := g
  rw [h] at g
  cases g; rfl

/-- A gate was made. -/
theorem LS.gate (s : LS wB gb tr wr tv iv av ts is rs n cs val) (m : More n cs val is n' cs' val') (h : Gt ⟨wB.heap.size, tOf2 tv iv⟩ gb w' n' cs') (f : FG ⟨wB.heap.size, tOf2 tv iv⟩ wr w') : LS wB gb tr w' tv iv av ts is rs n' cs' val' := by
  refine ⟨m.good, h, s.ot.fg f, s.oi.fg f, ownsRow_fg s.oa f (by decide) (by decide), s.ne, s.ln, fun j x r hx hr => (s.sy j x r hx hr).more m.lo m.agree, fun x hx => rng_more (s.rt x hx) m.lo, fun j x hx => ?_, f.be rfl s.be⟩
  obtain ⟨e1, e2⟩ := s.ev j x hx
  exact ⟨e1, by rw [hd_agree m.agree (s.g.inp x (List.mem_of_getElem? hx))]; exact e2⟩

theorem LS.below (s : LS wB gb tr wr tv iv av ts is rs n cs val) (b : Below wr.heap.size wr w') : LS wB gb tr w' tv iv av ts is rs n cs val :=
  s.gate (More.refl s.g) (s.h.below b) (FG.below b)

/-- A new input, which is put to the others. -/
theorem LS.input (s : LS wB gb tr wr tv iv av ts is rs n cs val) (hn : n ≤ 1000) (h : Gt ⟨wB.heap.size, tOf2 tv iv⟩ gb w2 (n + 1) cs) (f : FG ⟨wB.heap.size, tOf2 tv iv⟩ wr w2)
    (own : w3.ownsRow wB.heap.size 3 1 iv' (is.length + 1) (is.map (Value.int .i64) ++ [.int .i64 (2 * (n : Int))])) (gr : w2.grownBy w3 iv.ownBlock) (ls : Lies w2 iv iv') :
    LS wB gb tr w3 tv iv' av ts (is ++ [2 * (n : Int)]) rs (n + 1) cs (upV val n (!tr is.length)) := by
  have hag := up_agree val n (!tr is.length)
  have oi2 := s.oi.fg f
  have ot2 := s.ot.fg f
  have oa2 := ownsRow_fg s.oa f (by decide) (by decide)
  have be2 := f.be rfl s.be
  have hT : ∀ j, iv'.ownBlock = some j → iv.ownBlock = some j ∨ w2.heap.size ≤ j := ls
  refine ⟨s.g.input _, ?_, ?_, ?_, ?_, ?_, s.ln, fun j x r hx hr => (s.sy j x r hx hr).more (by omega) hag, fun x hx => rng_more (s.rt x hx) (by omega), ?_, be2.grown gr be2.size (fun j hj => (oi2.1.lt j hj).1)⟩
  · refine h.hop rfl gr (fun j T hj hT2 => ⟨.inl (.inr hj), ?_⟩) (fun j hj => ?_)
    · have := (oi2.typ hj).one hT2
      subst this
      exact ⟨by decide, by decide⟩
    · rcases hj with hj | hj
      · exact ⟨Nat.lt_of_lt_of_le (ot2.1.lt j hj).2 gr.size, .inl (.inl hj)⟩
      · exact ⟨(own.lt j hj).2, or_map (hT j hj) .inr id⟩
  · refine ⟨own_keep2 ot2.1 gr (fun j hj e => ?_), ot2.2⟩
    exact s.ne j hj e
  · refine ⟨?_, fit_append oi2.2 (fun x hx => by rw [List.mem_singleton] at hx; subst hx; omega)⟩
    rw [List.length_append, List.map_append]; exact own
  · refine own_keep2 oa2 gr (fun j hj e => ?_)
    have := (own_typ34 oa2 hj).one (oi2.typ e)
    exact absurd this (by decide)
  · intro j hj e
    rcases hT j e with e2 | e2
    · exact s.ne j hj e2
    · have := (ot2.1.lt j hj).2; omega
  · intro j x hx
    by_cases hj : j < is.length
    · rw [List.getElem?_append_left hj] at hx
      obtain ⟨e1, e2⟩ := s.ev j x hx
      exact ⟨e1, by rw [hd_agree hag (s.g.inp x (List.mem_of_getElem? hx))]; exact e2⟩
    · rw [List.getElem?_append_right (by omega)] at hx
      have hj2 : j = is.length := by
        have := (List.getElem?_eq_some_iff.1 hx).1
        simp at this; omega
      subst hj2
      simp at hx
      subst hx
      exact ⟨by omega, hd_new _ _ _⟩

/-- What was told, and what was asked for, are put to the others. -/
theorem LS.tell (s : LS wB gb tr wr tv iv av ts is rs n cs val) (hn : n ≤ 1000) {x : Int} {r : Ar} (hx : Says n val x r)
    (own : w3.ownsRow wB.heap.size 3 1 tv' (ts.length + 1) (ts.map (Value.int .i64) ++ [.int .i64 x])) (gr : wr.grownBy w3 tv.ownBlock) (ls : Lies wr tv tv')
    (own2 : w4.ownsRow wB.heap.size 34 4 av' (rs.length + 1) (rs.flatMap arV ++ arV r)) (gr2 : w3.grownBy w4 av.ownBlock) :
    LS wB gb tr w4 tv' iv av' (ts ++ [x]) is (rs ++ [r]) n cs val := by
  have hT : ∀ j, tv'.ownBlock = some j → tv.ownBlock = some j ∨ wr.heap.size ≤ j := ls
  have g3 : Gt ⟨wB.heap.size, tOf2 tv' iv⟩ gb w3 n cs := by
    refine s.h.hop rfl gr (fun j T hj hT2 => ⟨.inl (.inl hj), ?_⟩) (fun j hj => ?_)
    · have := (s.ot.typ hj).one hT2
      subst this
      exact ⟨by decide, by decide⟩
    · rcases hj with hj | hj
      · exact ⟨(own.lt j hj).2, or_map (hT j hj) .inl id⟩
      · exact ⟨Nat.lt_of_lt_of_le (s.oi.1.lt j hj).2 gr.size, .inl (.inr hj)⟩
  have oi3 : Own w3 wB.heap.size iv is := ⟨own_keep2 s.oi.1 gr (fun j hj e => s.ne j e hj), s.oi.2⟩
  have oa3 : w3.ownsRow wB.heap.size 34 4 av rs.length (rs.flatMap arV) := own_keep2 s.oa gr (fun j hj e => by
    have := (own_typ34 s.oa hj).one (s.ot.typ e)
    exact absurd this (by decide))
  have ot3 : Own w3 wB.heap.size tv' (ts ++ [x]) := ⟨by rw [List.length_append, List.map_append]; exact own, fit_append s.ot.2 (fun z hz => by rw [List.mem_singleton] at hz; subst hz; exact rng_fit hx.1 (by omega))⟩
  have be3 : Below wB.heap.size wB w3 := s.be.grown gr s.be.size (fun j hj => (s.ot.1.lt j hj).1)
  refine ⟨s.g, ?_, ⟨own_keep2 ot3.1 gr2 (fun j hj e => ?_), ot3.2⟩, ⟨own_keep2 oi3.1 gr2 (fun j hj e => ?_), oi3.2⟩, ?_, ?_, by simp [s.ln], ?_, ?_, s.ev, be3.grown gr2 be3.size (fun j hj => (oa3.lt j hj).1)⟩
  · refine g3.hop rfl gr2 (fun j T hj hT2 => ?_) (fun j hj => ⟨Nat.lt_of_lt_of_le (g3.tl j hj) gr2.size, .inl hj⟩)
    have := (own_typ34 oa3 hj).one hT2
    subst this
    exact ⟨.inr (by decide), by decide, by decide⟩
  · have := (ot3.typ hj).one (own_typ34 oa3 e); exact absurd this (by decide)
  · have := (oi3.typ hj).one (own_typ34 oa3 e); exact absurd this (by decide)
  · have e : (rs ++ [r]).flatMap arV = rs.flatMap arV ++ arV r := by simp
    rw [List.length_append, e]; exact own2
  · intro j hj e
    rcases hT j hj with e2 | e2
    · exact s.ne j e2 e
    · have := (s.oi.1.lt j e).2; omega
  · intro j z q hz hq
    by_cases hj : j < ts.length
    · rw [List.getElem?_append_left hj] at hz
      rw [List.getElem?_append_left (by rw [← s.ln]; exact hj)] at hq
      exact s.sy j z q hz hq
    · have hj2 : j = ts.length := by
        have := (List.getElem?_eq_some_iff.1 hz).1
        simp at this; omega
      subst hj2
      rw [List.getElem?_append_right (by omega)] at hz
      rw [List.getElem?_append_right (by rw [s.ln]; omega)] at hq
      simp at hz
      rw [s.ln] at hq
      simp at hq
      subst hz hq
      exact hx
  · intro z hz
    rcases List.mem_append.1 hz with hz | hz
    · exact s.rt z hz
    · rw [List.mem_singleton] at hz; subst hz; exact hx.1
end

/-! ### which inputs hold -/
def hF (tr : Nat → Bool) (j : Nat) (x : Int) : Int := if tr j = true then notF x else x
def holdL (tr : Nat → Bool) (is : List Int) (q : Nat) : List Int := (is.take q).mapIdx (hF tr)

theorem hold_next {tr : Nat → Bool} {is : List Int} {q : Nat} {x : Int} (h : is[q]? = some x) : holdL tr is (q + 1) = holdL tr is q ++ [hF tr q x] := by
  have hq : q < is.length := (List.getElem?_eq_some_iff.1 h).1
  rw [holdL, holdL, List.take_add_one, h]
  simp only [Option.toList_some, List.mapIdx_append, List.mapIdx_cons, List.mapIdx_nil, List.length_take]
  rw [show min q is.length = q by omega]
  simp

theorem hold_len (tr : Nat → Bool) (is : List Int) (q : Nat) : (holdL tr is q).length ≤ is.length := by
  simp [holdL]; omega

theorem hold_mem {tr : Nat → Bool} {is : List Int} {h : Int} (hh : h ∈ holdL tr is is.length) : ∃ (j : Nat) (x : Int), is[j]? = some x ∧ h = hF tr j x := by
  rw [holdL, List.take_length] at hh
  obtain ⟨j, hj, e⟩ := List.mem_mapIdx.1 hh
  exact ⟨j, is[j], by simp, e.symm⟩

theorem hold_of {tr : Nat → Bool} {is : List Int} {x : Int} (hx : x ∈ is) : ∃ j, is[j]? = some x ∧ hF tr j x ∈ holdL tr is is.length := by
  obtain ⟨j, hj, e⟩ := List.mem_iff_getElem.1 hx
  refine ⟨j, by rw [List.getElem?_eq_getElem hj, e], ?_⟩
  rw [holdL, List.take_length, List.mem_mapIdx]
  exact ⟨j, hj, by rw [e]⟩

theorem LS.holds {wB wr : World} {gb : Nat} {tr : Nat → Bool} {tv iv av : Value} {ts is : List Int} {rs : List Ar} {n : Nat} {cs : List (List Int)} {val : Nat → Bool} (s : LS wB gb tr wr tv iv av ts is rs n cs val) :
    (∀ h ∈ holdL tr is is.length, rng n h ∧ hd val h = true) ∧ ∀ x ∈ is, ∃ y ∈ holdL tr is is.length, (y / 2).toNat = (x / 2).toNat := by
  refine ⟨fun h hh => ?_, fun x hx => ?_⟩
  · obtain ⟨j, x, hx, rfl⟩ := hold_mem hh
    have hr := s.g.inp x (List.mem_of_getElem? hx)
    obtain ⟨_, e2⟩ := s.ev j x hx
    unfold hF
    split
    · rename_i e
      exact ⟨rng_not hr, by rw [hd_not _ hr.1, e2, e]; rfl⟩
    · rename_i e
      have e3 : tr j = false := by simpa using e
      exact ⟨hr, by rw [e2, e3]; rfl⟩
  · obtain ⟨j, hj, hm⟩ := hold_of (tr := tr) hx
    refine ⟨_, hm, ?_⟩
    have hr := s.g.inp x hx
    unfold hF
    split
    · rw [not_half hr.1]
    · rfl

end Go.Proofs.Ythdiajdphnjdoaa
