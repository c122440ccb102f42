/-
  assign, follow: a literal holds for a clause.
  The closing of clauses under those of one literal, as the document does it.
-/
import Derived.Test.YtimfjoinjfecjaaGreatQ05
import Derived.Test.YtimfjoinjfecjaaGreatQ03
import Derived.Maps.OwnSet

namespace Go.Proofs.YtimfjoinjfecjaaGreat
open Go.RowKit Go.Maps
set_option linter.unusedVariables false

theorem value_zero {L : List E} {m n : Nat} (hn : m / 2 < n) (h : valueF L (m : Int) = 0) : mayF n L m = true := by
  have h2 : (m : Int) / 2 = ((m / 2 : Nat) : Int) := by omega
  unfold valueF at h
  rw [if_neg (by omega), h2] at h
  unfold mayF
  rw [h2]
  cases ha : atF L ((m / 2 : Nat) : Int) with
  | none => simp; omega
  | some e =>
    rw [ha] at h
    simp only at h
    split at h <;> omega

section
variable {k : K} {kw : WK} {w : World} {g : G} {L : List E} {lev : Nat} {p : V}

theorem wassign_is (j : J k kw w g L lev p) (m u : Nat) (hm : m / 2 = u) (hu : u < kw.n) (hf : valueF L (m : Int) = 0) (r : Int) :
    Calls Tryz.prog 140 #[.pointer (some ⟨kw.OB, 0, none⟩), .pointer (some ⟨k.OB, 0, none⟩), .int .i64 m, .int .i64 r] w fun e w' => e = .returned (.tuple #[]) ∧ ∃ p', Hid (J k kw w' (g.place u L.length) (L ++ [⟨m, lev, r⟩]) lev p') ∧ Hid (FT k kw.B p p' w w') := by
  have hn := j.s.l.hn
  have hnn := j.n
  have hmu : (m : Int) ≤ 9223372036854775807 := by omega
  have hmay : mayF k.n L m = true := value_zero (by omega) hf
  have hadd : addL k.n L m lev r = L ++ [⟨m, lev, r⟩] := by unfold addL; rw [hmay]; simp
  have hll := j.t.len
  have hL1 : (L.length : Int) + 1 ≤ 9223372036854775807 := by omega
  have HM := hid hm
  have HJ := hid j
  have H1 := hid hmay
  have H2 := hid hadd
  clear hm j hmay hadd hll hf
  go_enter Tryz.func140, Tryz.ntmps140
  go_wp2_with (first
    | (go_at_call 101; with_reducible (refine (assign_is HJ.out.t m r hmu H1.out H2.out).mono ?_); rintro e w1 ⟨p1, rfl, t1, f1⟩; have j1 := hid (HJ.out.fr f1.out t1.out))
    | (go_at_call 50; with_reducible (refine (lits_is j1.out.t).mono ?_); rintro e w1 ⟨ao, rfl, hr, rfl⟩)
    | (go_at_call 76; with_reducible (refine (put_is j1.out.s m u HM.out hu L.length).mono ?_); rintro e w2 ⟨rfl, h2⟩))
  go_end0
  exact ⟨rfl, p1, hid (j1.out.fw h2.out.2 h2.out.1 rfl rfl rfl rfl), hid ((FT.fr HJ.out.t HJ.out.b f1.out).trans (FT.fw h2.out.2))⟩

theorem follow_no (j : J k kw w g L lev p) {c : Nat} (hc : c < g.nx) (a : Int) (ha : a ≤ 9223372036854775807) (hv : valueF L a = -1) :
    Calls Tryz.prog 114 #[.pointer (some ⟨kw.OB, 0, none⟩), .pointer (some ⟨k.OB, 0, none⟩), .pointer (some ⟨g.cb c, 0, none⟩), .int .i64 a] w fun e w' => e = .returned (.bool false) ∧ Hid (Below w.heap.size w w') := by
  have HJ := hid j
  have HV := hid hv
  clear j hv
  go_enter Tryz.func114, Tryz.ntmps114
  go_wp2_with (go_at_call 138; with_reducible (refine (value_is HJ.out.t a ha HV.out).mono ?_); rintro e w1 ⟨rfl, b1⟩)
  go_ret
  exact ⟨rfl, b1⟩

theorem follow_held (j : J k kw w g L lev p) {c : Nat} (hc : c < g.nx) (a : Int) (ha : a ≤ 9223372036854775807) (hv : valueF L a = 1) :
    Calls Tryz.prog 114 #[.pointer (some ⟨kw.OB, 0, none⟩), .pointer (some ⟨k.OB, 0, none⟩), .pointer (some ⟨g.cb c, 0, none⟩), .int .i64 a] w fun e w' => e = .returned (.bool true) ∧ Hid (Below w.heap.size w w') := by
  have HJ := hid j
  have HV := hid hv
  clear j hv
  go_enter Tryz.func114, Tryz.ntmps114
  go_wp2_with (go_at_call 138; with_reducible (refine (value_is HJ.out.t a ha HV.out).mono ?_); rintro e w1 ⟨rfl, b1⟩)
  go_ret
  exact ⟨rfl, b1⟩

theorem follow_new (j : J k kw w g L lev p) {c : Nat} (hc : c < g.nx) (hg : g.gn c = false) (m u : Nat) (hm : m / 2 = u) (hu : u < kw.n) (hv : valueF L (m : Int) = 0) :
    Calls Tryz.prog 114 #[.pointer (some ⟨kw.OB, 0, none⟩), .pointer (some ⟨k.OB, 0, none⟩), .pointer (some ⟨g.cb c, 0, none⟩), .int .i64 m] w fun e w' => e = .returned (.bool true) ∧ ∃ p', Hid (J k kw w' (g.place u L.length) (L ++ [⟨m, lev, c⟩]) lev p') ∧ Hid (FT k kw.B p p' w w') := by
  have hn := j.s.l.hn
  have hmu : (m : Int) ≤ 9223372036854775807 := by omega
  have HJ := hid j
  have HV := hid hv
  have HM := hid hm
  clear j hv hm
  go_enter Tryz.func114, Tryz.ntmps114
  go_wp2_with (first
    | (go_at_call 138; with_reducible (refine (value_is HJ.out.t m hmu HV.out).mono ?_); rintro e w1 ⟨rfl, b1⟩; have j1 := hid (HJ.out.below b1.out); have k0 := (j1.out.s.l.ks hc hg).1)
    | (go_at_call 140; with_reducible (refine (wassign_is j1.out m u HM.out hu HV.out c).mono ?_); rintro e w2 ⟨rfl, p2, j2, f2⟩))
  go_ret
  exact ⟨rfl, p2, j2, hid ((FT.below b1.out).trans f2.out)⟩
end

end Go.Proofs.YtimfjoinjfecjaaGreat

namespace Go.Proofs.YtimfjoinjfecjaaGreat.U
open Go.RowKit Go.Maps
set_option linter.unusedVariables false

theorem hid {p : Prop} (h : p) : Hid p := h

/-! ### Blocks -/
theorem grown_set (w : World) (a : Addr) (v : Value) : w.grownBy (w.setCell a v) (some a.block) :=
  ⟨rfl, rfl, rfl, by simp [World.setCell], fun k _ hne => Below.heap_setCell _ _ _ _ (fun e => hne (by rw [e]))⟩

theorem grown_new (w : World) (o : Obj) (r : Option Nat) : w.grownBy (w.alloc o) r := World.grownBy_alloc w o r

theorem grown_two {a b c : World} {r : Option Nat} (h : a.grownBy b r) (g : b.grownBy c r) : a.grownBy c r :=
  ⟨g.os.trans h.os, g.tape.trans h.tape, g.output.trans h.output, Nat.le_trans h.size g.size, fun k hk hn => (g.block k (Nat.lt_of_lt_of_le hk h.size) hn).trans (h.block k hk hn)⟩

theorem below_grown {w w' : World} {B : Nat} {r : Option Nat} (g : w.grownBy w' r) (hr : ∀ j, r = some j → B ≤ j) (hB : B ≤ w.heap.size) : Below B w w' :=
  ⟨g.os, g.tape, g.output, g.size, fun k hk => g.block k (by omega) (fun e => by have := hr k e.symm; omega)⟩

theorem blk_lt {w : World} {b : Nat} {o : Obj} (h : w.heap[b]? = some o) : b < w.heap.size := (Array.getElem?_eq_some_iff.1 h).1

theorem blk_ne {w : World} {b b' : Nat} {c c' : Array Value} {T T' : TypeId} {fr fr' : Nat × Nat} (h : w.heap[b]? = some (.cells c T fr)) (h' : w.heap[b']? = some (.cells c' T' fr')) (hT : T ≠ T') : b ≠ b' := by
  rintro rfl
  rw [h] at h'
  simp only [Option.some.injEq, Obj.cells.injEq] at h'
  exact hT h'.2.1

theorem set_same {w : World} {b o : Nat} {c : Array Value} {T : TypeId} {fr : Nat × Nat} (h : w.heap[b]? = some (.cells c T fr)) (v : Value) : (w.setCell ⟨b, o, none⟩ v).heap[b]? = some (.cells (c.setIfInBounds o v) T fr) := by
  simp [World.setCell, Array.getElem?_modify, h]

theorem new_same (w : World) (o : Obj) : (w.alloc o).heap[w.heap.size]? = some o := by
  show (w.heap.push _)[w.heap.size]? = _; simp

theorem cell_of {w : World} {b o : Nat} {c : Array Value} {T : TypeId} {fr : Nat × Nat} (h : w.heap[b]? = some (.cells c T fr)) : w.cell? ⟨b, o, none⟩ = c[o]? := by simp [World.cell?, h]
theorem frozen_of {w : World} {b o : Nat} {c : Array Value} {T : TypeId} (h : w.heap[b]? = some (.cells c T (0, 0))) : w.frozen? ⟨b, o, none⟩ = false := by simp [World.frozen?, h]

theorem own_keep {w w' : World} {base : Nat} {E : TypeId} {sz : Nat} {v : Value} {n : Nat} {xs : List Value} {r : Option Nat} (h : w.ownsRow base E sz v n xs) (g : w.grownBy w' r)
    (hr : ∀ j, r = some j → j < base ∨ ∀ c T fr, w.heap[j]? = some (.cells c T fr) → T ≠ E) : w'.ownsRow base E sz v n xs := by
  refine ⟨h.1, ?_⟩
  rcases h.2 with h2 | ⟨b, cap, cur, rfl, hb, hg, rest⟩
  · exact .inl h2
  · refine .inr ⟨b, cap, cur, rfl, hb, ?_, rest⟩
    rw [g.block b (blk_lt hg) ?_]
    · exact hg
    · intro e
      rcases hr b e.symm with h3 | h3
      · omega
      · exact h3 _ _ _ hg rfl

theorem len_sub : ∀ {a b : List Int}, a.Nodup → (∀ x ∈ a, x ∈ b) → a.length ≤ b.length := by
  intro a
  induction a with
  | nil => intro b _ _; simp
  | cons x a ih =>
    intro b hn hs
    rw [List.nodup_cons] at hn
    have hx : x ∈ b := hs x (by simp)
    have := ih (b := b.erase x) hn.2 (fun y hy => by
      have hne : y ≠ x := fun e => hn.1 (e ▸ hy)
      exact (List.mem_erase_of_ne hne).2 (hs y (by simp [hy])))
    rw [List.length_erase_of_mem hx] at this
    have := List.length_pos_of_mem hx
    simp only [List.length_cons]; omega

def lits (L : List (List Int)) (S : List Int) : List Int := (S ++ L.flatten).filter (fun x => decide (0 ≤ x))
end Go.Proofs.YtimfjoinjfecjaaGreat.U

namespace Go.Proofs.YtimfjoinjfecjaaGreat.U
open Go.RowKit
set_option linter.unusedVariables false

def bothF (xs : List Int) : Bool := xs.any (fun x => hasF xs (notF x))

/-- Of a clause the literals that may hold. -/
def leftF (c now : List Int) : List Int := (dd c).filter (fun y => !hasF now (notF y))
def metF (c now : List Int) : Bool := c.any (fun y => decide (0 ≤ y) && hasF now y)

theorem take_next {c : List Int} {k : Nat} {y : Int} (h : c[k]? = some y) : c.take (k + 1) = c.take k ++ [y] := by rw [List.take_add_one, h]; rfl

end Go.Proofs.YtimfjoinjfecjaaGreat.U

namespace Go.Proofs.YtimfjoinjfecjaaGreat.U
open Go.RowKit
set_option linter.unusedVariables false

def posF (S : List Int) : List Int := S.filter (fun x => decide (0 ≤ x))

theorem mem_pos {S : List Int} {x : Int} : x ∈ posF S ↔ x ∈ S ∧ 0 ≤ x := by simp [posF]
/-- What has come to hold behind the beginning. -/
structure Rc (L : List (List Int)) (S A : List Int) : Prop where
  nod : A.Nodup
  sub : ∀ x ∈ A, x ∈ lits L S
  der : ∀ x ∈ posF S ++ A, Der L S x

theorem Rc.start (L : List (List Int)) (S : List Int) : Rc L S [] := ⟨List.nodup_nil, fun x h => by simp at h, fun x h => by
  rw [List.append_nil] at h; exact .base (mem_pos.1 h).1 (mem_pos.1 h).2⟩

theorem Rc.len {L : List (List Int)} {S A : List Int} (h : Rc L S A) : A.length ≤ (lits L S).length := len_sub h.nod h.sub

def ClosedC (c now : List Int) : Prop := metF c now = true ∨ 2 ≤ (leftF c now).length

theorem left_in {c now : List Int} {y : Int} (h : y ∈ leftF c now) : y ∈ c ∧ 0 ≤ y ∧ notF y ∉ now := by
  obtain ⟨h1, h2⟩ := List.mem_filter.1 h
  have := (mem_dd c y).1 h1
  refine ⟨this.1, this.2, fun hn => ?_⟩
  rw [(hasF_mem _ _).2 hn] at h2; cases h2

def RcDone (L : List (List Int)) (S A : List Int) (g : Bool) : Prop := g = false → bothF (posF S ++ A) = false ∧ ∀ (i : Nat) (c : List Int), L[i]? = some c → ClosedC c (posF S ++ A)

/-- Clauses ahead of q are gone over. -/
def RcPart (L : List (List Int)) (S A : List Int) (q : Nat) (A2 : List Int) (g : Bool) : Prop := (g = true → A.length < A2.length) ∧ (g = false → A2 = A ∧ ∀ (j : Nat) (c : List Int), j < q → L[j]? = some c → ClosedC c (posF S ++ A2))

theorem RcPart.next {L : List (List Int)} {S A A2 c : List Int} {q : Nat} {g : Bool} (h : RcPart L S A q A2 g) (hc : L[q]? = some c) (hl : ClosedC c (posF S ++ A2)) : RcPart L S A (q + 1) A2 g := by
  refine ⟨h.1, fun hg => ⟨(h.2 hg).1, fun j d hj hd => ?_⟩⟩
  by_cases e : j = q
  · subst e; rw [hc] at hd; cases hd; exact hl
  · exact (h.2 hg).2 j d (by omega) hd

theorem RcPart.more {L : List (List Int)} {S A A2 : List Int} {q : Nat} {g : Bool} (h : RcPart L S A q A2 g) (x : Int) : RcPart L S A (q + 1) (A2 ++ [x]) true := by
  refine ⟨fun _ => ?_, fun h => by cases h⟩
  cases g
  · rw [(h.2 rfl).1]; simp
  · have := h.1 rfl; simp; omega

theorem RcPart.all {L : List (List Int)} {S A A2 : List Int} {q : Nat} {g : Bool} (h : RcPart L S A q A2 g) (hq : L.length ≤ q) (hb : bothF (posF S ++ A) = false) : RcDone L S A2 g := by
  intro hg
  obtain ⟨e, h2⟩ := h.2 hg
  subst e
  exact ⟨hb, fun i c hi => h2 i c (by have := (List.getElem?_eq_some_iff.1 hi).1; omega) hi⟩

end Go.Proofs.YtimfjoinjfecjaaGreat.U
