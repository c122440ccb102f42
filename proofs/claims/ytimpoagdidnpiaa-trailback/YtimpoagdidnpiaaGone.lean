/-
  What is gone behind Back, and what is not; along the trail.
-/
import Derived.Test.YtimpoagdidnpiaaOps
import Derived.Deep.Cut
import Derived.Deep.CutRange
import Derived.Laws.BitsAll
import Derived.Laws.BitsAllLaws
namespace Go.Proofs.Ytimpoagdidnpiaa
open Go.RowKit
set_option linter.unusedVariables false

theorem Good.mono {n : Nat} {L : List E} {F : Nat → Fc} {S : List Nat} (g : Good n L F S) {i j : Nat} {a b : E} (ha : L[i]? = some a) (hb : L[j]? = some b) (hij : i ≤ j) : a.g ≤ b.g := by
  by_cases h : b.g < S.length
  · obtain ⟨s, hs⟩ : ∃ s, S[b.g]? = some s := ⟨_, List.getElem?_eq_getElem h⟩
    obtain ⟨_, _, h4⟩ := g.cut b.g s hs
    have h5 := (h4 j b hb).1 (Nat.le_refl _)
    exact (h4 i a ha).2 (by omega)
  · have := g.lv a (List.mem_of_getElem? ha)
    omega

/-- How many of the first q are at most at level x. -/
def cntK (L : List E) (x : Int) (q : Nat) : Nat := ((L.take q).filter (fun e => decide ((e.g : Int) ≤ x))).length

theorem cnt_yes {L : List E} {x : Int} {q : Nat} {e : E} (h : L[q]? = some e) (hx : (e.g : Int) ≤ x) : cntK L x (q + 1) = cntK L x q + 1 := by
  unfold cntK
  rw [List.take_add_one, h, List.filter_append]
  simp [hx]
theorem cnt_no {L : List E} {x : Int} {q : Nat} {e : E} (h : L[q]? = some e) (hx : ¬ (e.g : Int) ≤ x) : cntK L x (q + 1) = cntK L x q := by
  unfold cntK
  rw [List.take_add_one, h, List.filter_append]
  simp [hx]
theorem cnt_le (L : List E) (x : Int) (q : Nat) : cntK L x q ≤ q := by
  unfold cntK
  refine Nat.le_trans (List.length_filter_le _ _) ?_
  rw [List.length_take]
  omega

theorem Good.cnt {n : Nat} {L : List E} {F : Nat → Fc} {S : List Nat} (g : Good n L F S) {i s : Nat} (hs : S[i]? = some s) : cntK L i L.length = s := by
  obtain ⟨_, ⟨e0, h2, _⟩, h4⟩ := g.cut i s hs
  have hsl := (List.getElem?_eq_some_iff.1 h2).1
  unfold cntK
  rw [List.take_length]
  have e1 : (L.take s).filter (fun e => decide ((e.g : Int) ≤ (i : Int))) = L.take s := by
    rw [List.filter_eq_self]
    intro e he
    obtain ⟨j, hj⟩ := List.mem_iff_getElem?.1 he
    have hj2 := (List.getElem?_eq_some_iff.1 hj).1
    simp at hj2
    rw [List.getElem?_take_of_lt (by omega)] at hj
    have := (h4 j e hj).2 (by omega)
    simp
    omega
  have e2 : (L.drop s).filter (fun e => decide ((e.g : Int) ≤ (i : Int))) = [] := by
    rw [List.filter_eq_nil_iff]
    intro e he
    obtain ⟨j, hj⟩ := List.mem_iff_getElem?.1 he
    rw [List.getElem?_drop] at hj
    have h5 := h4 (s + j) e hj
    simp
    have : ¬ e.g ≤ i := fun c => by have := h5.1 c; omega
    omega
  have e3 : L.filter (fun e => decide ((e.g : Int) ≤ (i : Int))) = L.take s := by
    rw [← List.take_append_drop s L, List.filter_append, e1, e2, List.append_nil, List.take_append_drop]
  rw [e3, List.length_take]
  omega

section
variable {k : K} {w : World} {L : List E} {lev : Nat} {p : V}

/-- What is so of a literal of the trail. -/
theorem Trl.one (t : Trl k w L lev p) {q : Nat} {e : E} (h : L[q]? = some e) :
    levelF L ((e.l : Int) / 2) = e.g ∧ valueF L (e.l : Int) = 1 ∧ (∀ m : Nat, m ≠ e.l → m / 2 = e.l / 2 → valueF L (m : Int) = -1) ∧ e.g ≤ lev ∧ e.l ≤ 2097153 := by
  obtain ⟨F, S, s, g, rfl⟩ := t
  have he := List.mem_of_getElem? h
  have h1 := g.one he
  have h2 : (e.l : Int) / 2 = ((vr e : Nat) : Int) := by simp only [vr]; omega
  have hn := s.hn
  have hl := g.lt e he
  refine ⟨?_, ?_, fun m hm hm2 => ?_, g.lv e he, ?_⟩
  · unfold levelF; rw [h2, h1]
  · unfold valueF; rw [if_neg (by omega), h2, h1]; simp
  · have h3 : (m : Int) / 2 = ((vr e : Nat) : Int) := by simp only [vr]; omega
    unfold valueF; rw [if_neg (by omega), h3, h1]
    have : ¬ ((e.l : Int) = m) := by omega
    simp [this]
  · simp only [vr] at hl; omega

theorem Trl.mono (t : Trl k w L lev p) {i j : Nat} {a b : E} (ha : L[i]? = some a) (hb : L[j]? = some b) (hij : i ≤ j) : a.g ≤ b.g := by
  obtain ⟨F, S, s, g, _⟩ := t; exact g.mono ha hb hij

/-- What is so of a level that is. -/
theorem Trl.part (t : Trl k w L lev p) {i : Nat} (hi : i < lev) : ∃ s : Nat, s < L.length ∧ backL L lev i = L.take s ∧ backV lev i = i ∧ (backG L lev i).length = L.length - s ∧ cntK L i L.length = s := by
  obtain ⟨F, S, s, g, rfl⟩ := t
  obtain ⟨c, hc⟩ : ∃ c, S[i]? = some c := ⟨_, List.getElem?_eq_getElem hi⟩
  obtain ⟨h1, h2, h3⟩ := g.back_yes hc
  obtain ⟨_, ⟨e0, h5, _⟩, _⟩ := g.cut i c hc
  exact ⟨c, (List.getElem?_eq_some_iff.1 h5).1, h1, h2, by rw [h3]; simp, g.cnt hc⟩

/-- A list that Lits told lies there as it did behind Back. -/
theorem Trl.told {w' : World} {ao : Option Addr} {m c : Nat} {xs : List Int} (t : Trl k w L lev p) (h : Row w ao m xs) (ho : p.l.ownBlock = (Value.slice ao m c).ownBlock) (lo : Lo k w w') : Row w' ao m xs := by
  obtain ⟨F, S, s, _⟩ := t
  refine h.same (c := c) fun j hj hlt => ?_
  have := (s.rl.lt (j := j) (by rw [ho]; exact hj)).1
  have := s.lt
  exact lo.block j hlt (by omega) (by omega)
end

/-! ### The other literal, by its lowest bit -/
theorem xor_one (m : Nat) : m ^^^ 1 ≠ m ∧ (m ^^^ 1) / 2 = m / 2 := by
  refine ⟨fun h => ?_, ?_⟩
  · have := congrArg (fun x => x.testBit 0) h
    simp at this
    omega
  · rw [Nat.xor_div_two]; simp

theorem ofInt_i64 (a : Nat) (ha : a < 9223372036854775808) : (BitVec.ofInt 64 (a : Int)).toNat = a := ofInt_u64 a (by omega)
theorem i64_xor_one (m : Nat) (hm : m ≤ 2097153) : bits .xor .i64 (m : Int) 1 = ((m ^^^ 1 : Nat) : Int) := by
  have hx : m ^^^ 1 < 2 ^ 22 := Nat.xor_lt_two_pow (by omega) (by omega)
  show IntKind.i64.wrap ((BitVec.ofInt 64 (m : Int) ^^^ BitVec.ofInt 64 ((1 : Nat) : Int)).toNat : Int) = _
  rw [BitVec.toNat_xor, ofInt_i64 m (by omega), ofInt_i64 1 (by omega)]
  exact IntWalk.i64_in _ (by omega)

theorem other {L : List E} {m : Nat} (hm : m ≤ 2097153) (h : ∀ x : Nat, x ≠ m → x / 2 = m / 2 → valueF L (x : Int) = -1) : ∃ x : Nat, bits .xor .i64 (m : Int) 1 = (x : Int) ∧ Hid (valueF L (x : Int) = -1) ∧ (x : Int) ≤ 9223372036854775807 := by
  obtain ⟨h1, h2⟩ := xor_one m
  refine ⟨m ^^^ 1, i64_xor_one m hm, h _ h1 h2, ?_⟩
  omega

/-! ### Where the literals lie -/
def litA (p : V) : Option Addr := match p.l with
  | .slice ao _ _ => ao
  | _ => none

theorem Trl.row {k : K} {w : World} {L : List E} {lev : Nat} {p : V} (t : Trl k w L lev p) : Row w (litA p) L.length (litsF L) := by
  obtain ⟨F, S, s, _⟩ := t
  have h := s.rl
  obtain ⟨ao, cap, e, _⟩ := h.shape
  rw [litsF_len] at e
  unfold litA
  rw [e] at h ⊢
  exact Row.of h

theorem lits_det {k : K} {w : World} {L : List E} {lev : Nat} {p : V} (t : Trl k w L lev p) {m : Nat} (hm : L.length = m) : Calls Try.prog 18 #[.pointer (some ⟨k.OB, 0, none⟩)] w fun e w' => e = .returned (.slice (litA p) m m) ∧ w' = w := by
  subst hm
  have hl := litsF_len L
  have ha : (p.l = .slice none 0 0 ∧ litsF L = []) ∨ ∃ g n cap, p.l = .slice (some ⟨g, 0, none⟩) n cap := by
    obtain ⟨F, S, s, _⟩ := id t
    rcases s.rl with h | ⟨b, cap, cur, h, _⟩
    · exact .inl h
    · exact .inr ⟨b, _, cap, h⟩
  refine (lits_is t).mono fun e w' h => ?_
  obtain ⟨ao, rfl, h, rfl⟩ := h
  obtain ⟨h1, h2⟩ := h.out
  refine ⟨?_, rfl⟩
  have e : ao = litA p := by
    unfold litA
    rcases ha with ⟨h3, h4⟩ | ⟨g, n, cap, h3⟩
    · rw [h3] at h2 ⊢
      rcases h1 with ⟨h5, _⟩ | ⟨b, cap, cur, h5, _⟩
      · exact (Value.slice.inj h5).1
      · rw [h5] at h2; simp [Value.ownBlock] at h2
    · rw [h3] at h2 ⊢
      rcases h1 with ⟨h5, _⟩ | ⟨b, cap, cur, h5, _⟩
      · rw [h5] at h2; simp [Value.ownBlock] at h2
      · rw [(Value.slice.inj h5).1] at h2 ⊢
        simp [Value.ownBlock] at h2
        rw [h2]
  rw [e]

section
variable {ev : Operand → Value} {o : Oper} {w : World}
theorem args0 : (#[] : Array Operand).map ev = #[] := by simp
theorem op_len38 {x : Operand} (ho : o.op = .call { callee := .builtin .len, args := #[x], argTypes := #[38] }) {a : Option Addr} {n c : Nat} (hx : ev x = .slice a n c) : (execOp ev o).run Try.prog w = .ok (.value (.int .i64 n)) w := by
  simp [go_sem, execOp, ho, hx]
theorem op_sub {x y : Operand} (ho : o.op = .binOp .sub 3 x y 3) {a b c : Int} (hx : ev x = .int .i64 a) (hy : ev y = .int .i64 b) (hc : a - b = c) (h0 : 0 ≤ c) (h1 : c ≤ 1048576) : (execOp ev o).run Try.prog w = .ok (.value (.int .i64 c)) w := by
  have e : IntKind.i64.wrap c = c := IntWalk.i64_in _ (by omega)
  simp [go_sem, execOp, ho, hx, hy, hc, e]
theorem op_slice38 {x y : Operand} (ho : o.op = .slice 38 x none (some y) none) {b n c q : Nat} (hx : ev x = .slice (some ⟨b, 0, none⟩) n c) (hy : ev y = .int .i64 q) (hq : q < c) : (execOp ev o).run Try.prog w = .ok (.value (.slice (some ⟨b, 0, none⟩) q c)) w := by
  have h1 : (q : Int) ≤ c := by omega
  have h2 : ¬ c = 0 := by omega
  simp [go_sem, execOp, ho, hx, hy, h1, h2]
end

def ownTwo (o : Nat) (vals : List Value) (s0 : Nat) (v0 : Value) (s : Nat) : Option (Nat × Value) := if s = s0 then some (vals.length, v0) else if o ≤ s then (vals[s - o]?).map (fun v => (s - o, v)) else none

theorem ownTwo_inj (o : Nat) (vals : List Value) (s0 : Nat) (v0 : Value) : ∀ s s' i v v', ownTwo o vals s0 v0 s = some (i, v) → ownTwo o vals s0 v0 s' = some (i, v') → s = s' := by
  have key : ∀ s i v, ownTwo o vals s0 v0 s = some (i, v) → (s = s0 ∧ i = vals.length) ∨ (o ≤ s ∧ i = s - o ∧ i < vals.length) := by
    intro s i v h
    unfold ownTwo at h
    split at h
    · rename_i e
      simp only [Option.some.injEq, Prod.mk.injEq] at h
      exact .inl ⟨e, h.1.symm⟩
    · split at h
      · rename_i e
        simp only [Option.map_eq_some_iff, Prod.mk.injEq] at h
        obtain ⟨_, h1, h2, _⟩ := h
        have := (List.getElem?_eq_some_iff.1 h1).1
        exact .inr ⟨e, h2.symm, by omega⟩
      · simp at h
  intro s s' i v v' h h'
  rcases key s i v h with ⟨h1, h2⟩ | ⟨h1, h2, h3⟩ <;> rcases key s' i v' h' with ⟨h4, h5⟩ | ⟨h4, h5, h6⟩ <;> omega

/-- Before the look: deeds are done, each beside a new trail of the document's. -/
structure Fd (k : K) (w : World) (L : List E) (lev : Nat) (p : V) (wr : World) : Prop where
  t : Trl k wr L lev p
  be : Below w.heap.size w wr
  kb : k.B = w.heap.size

section
variable {k : K} {w wr w2 w5 : World} {L L' : List E} {lev lev' : Nat} {p p' : V}

theorem Fd.below (f : Fd k w L lev p wr) (b : Below wr.heap.size wr w2) : Fd k w L lev p w2 := ⟨f.t.below b, Below.next f.be b, f.kb⟩
theorem Fd.step (f : Fd k w L lev p wr) (t : Trl k w2 L' lev' p') (fr : Fr k p p' wr w2) : Fd k w L' lev' p' w2 := ⟨t, f.t.be fr f.kb f.be, f.kb⟩
theorem Fd.doin (f : Fd k w L lev p wr) (n2 : Nat) (hn : n2 ≤ 1048576) : DoIn k wr L lev p (.slice none 0 0) [] n2 0 := ⟨f.t, rs_new _ n2 hn, fun j hj => by simp [Value.ownBlock] at hj⟩

theorem do_fresh (f : Fd k w L lev p wr) (n2 : Nat) (hn : n2 ≤ 1048576) (kd l t : Int) (hu : l ≤ 9223372036854775807) :
    Calls Try.prog 9 #[.pointer (some ⟨k.OB, 0, none⟩), .agg #[.int .i64 n2, .slice none 0 0, .int .i64 0], .agg #[.int .i64 kd, .int .i64 l, .int .i64 t]] wr fun e w' => ∃ ao m c v x L' lev' p', e = .returned (.tuple #[.agg #[.int .i64 n2, .slice ao m c, .int .i64 v], .int .i64 x]) ∧ Hid (Fd k w L' lev' p' w') := by
  have h := do_any (f.doin n2 hn) kd l t hu rfl rfl rfl rfl rfl
  refine h.mono fun e w' he => ?_
  obtain ⟨ao, c, rfl, he⟩ := he
  obtain ⟨p', t', _, _, fr⟩ := he.out
  exact ⟨_, _, _, _, _, _, _, _, rfl, f.step t' fr⟩
end

end Go.Proofs.Ytimpoagdidnpiaa
