/-
  The closing of clauses under those of one literal, as the document does it.
-/
import Derived.Test.YtimfjoinjfecjaaGreatG05
import Derived.Maps.OwnSet

namespace Go.Proofs.YtimfjoinjfecjaaGreat.U
open Go.RowKit Go.Maps
set_option linter.unusedVariables false

theorem hid {p : Prop} (h : p) : Hid p := h

/-! ### Blocks -/
theorem grown_set (w : World) (a : Addr) (v : Value) : w.grownBy (w.setCell a v) (some a.block) :=
  ⟨rfl, rfl, rfl, by simp [World.setCell], fun k _ hne => Below.heap_setCell _ _ _ _ (fun e => hne (by rw [e]))⟩

theorem grown_new (w : World) (o : Obj) (r : Option Nat) : w.grownBy (w.alloc o) r := World.grownBy_alloc w o r

theorem grown_two {a b c : World} {r : Option Nat} (h : a.grownBy b r) (g : b.grownBy c r) : a.grownBy c r :=
  ⟨g.os.trans h.os, g.tape.trans h.tape, g.output.trans h.output, Nat.le_trans h.size g.size, fun k hk hn => (g.block k (Nat.lt_of_lt_of_le hk h.size) hn).trans (h.block k hk hn)⟩

theorem below_grown {w w' : World} {B : Nat} {r : Option Nat} (g : w.grownBy w' r) (hr : ∀ j, r = some j → B ≤ j) (hB : B ≤ w.heap.size) : Below B w w' :=
  ⟨g.os, g.tape, g.output, g.size, fun k hk => g.block k (by omega) (fun e => by have := hr k e.symm; omega)⟩

theorem blk_lt {w : World} {b : Nat} {o : Obj} (h : w.heap[b]? = some o) : b < w.heap.size := (Array.getElem?_eq_some_iff.1 h).1

theorem blk_ne {w : World} {b b' : Nat} {c c' : Array Value} {T T' : TypeId} {fr fr' : Nat × Nat} (h : w.heap[b]? = some (.cells c T fr)) (h' : w.heap[b']? = some (.cells c' T' fr')) (hT : T ≠ T') : b ≠ b' := by
  rintro rfl
  rw [h] at h'
  simp only [Option.some.injEq, Obj.cells.injEq] at h'
  exact hT h'.2.1

theorem set_same {w : World} {b o : Nat} {c : Array Value} {T : TypeId} {fr : Nat × Nat} (h : w.heap[b]? = some (.cells c T fr)) (v : Value) : (w.setCell ⟨b, o, none⟩ v).heap[b]? = some (.cells (c.setIfInBounds o v) T fr) := by
  simp [World.setCell, Array.getElem?_modify, h]

theorem new_same (w : World) (o : Obj) : (w.alloc o).heap[w.heap.size]? = some o := by
  show (w.heap.push _)[w.heap.size]? = _; simp

theorem cell_of {w : World} {b o : Nat} {c : Array Value} {T : TypeId} {fr : Nat × Nat} (h : w.heap[b]? = some (.cells c T fr)) : w.cell? ⟨b, o, none⟩ = c[o]? := by simp [World.cell?, h]
theorem frozen_of {w : World} {b o : Nat} {c : Array Value} {T : TypeId} (h : w.heap[b]? = some (.cells c T (0, 0))) : w.frozen? ⟨b, o, none⟩ = false := by simp [World.frozen?, h]

theorem own_keep {w w' : World} {base : Nat} {E : TypeId} {sz : Nat} {v : Value} {n : Nat} {xs : List Value} {r : Option Nat} (h : w.ownsRow base E sz v n xs) (g : w.grownBy w' r)
    (hr : ∀ j, r = some j → j < base ∨ ∀ c T fr, w.heap[j]? = some (.cells c T fr) → T ≠ E) : w'.ownsRow base E sz v n xs := by
  refine ⟨h.1, ?_⟩
  rcases h.2 with h2 | ⟨b, cap, cur, rfl, hb, hg, rest⟩
  · exact .inl h2
  · refine .inr ⟨b, cap, cur, rfl, hb, ?_, rest⟩
    rw [g.block b (blk_lt hg) ?_]
    · exact hg
    · intro e
      rcases hr b e.symm with h3 | h3
      · omega
      · exact h3 _ _ _ hg rfl

theorem len_sub : ∀ {a b : List Int}, a.Nodup → (∀ x ∈ a, x ∈ b) → a.length ≤ b.length := by
  intro a
  induction a with
  | nil => intro b _ _; simp
  | cons x a ih =>
    intro b hn hs
    rw [List.nodup_cons] at hn
    have hx : x ∈ b := hs x (by simp)
    have := ih (b := b.erase x) hn.2 (fun y hy => by
      have hne : y ≠ x := fun e => hn.1 (e ▸ hy)
      exact (List.mem_erase_of_ne hne).2 (hs y (by simp [hy])))
    rw [List.length_erase_of_mem hx] at this
    have := List.length_pos_of_mem hx
    simp only [List.length_cons]; omega

def lits (L : List (List Int)) (S : List Int) : List Int := (S ++ L.flatten).filter (fun x => decide (0 ≤ x))
theorem mem_lits {L : List (List Int)} {S : List Int} {x : Int} : x ∈ lits L S ↔ (x ∈ S ∨ ∃ c ∈ L, x ∈ c) ∧ 0 ≤ x := by
  simp only [lits, List.mem_filter, List.mem_append, List.mem_flatten, decide_eq_true_eq]

def CloseEnd (w : World) (L : List (List Int)) (S : List Int) (e : Ending) (w' : World) : Prop :=
  ∃ (ao : Option Addr) (m c : Nat) (xs : List Int) (ok : Bool), e = .returned (.tuple #[.slice ao m c, .bool ok]) ∧ Row w' ao m c xs ∧ Res L S xs ok ∧ Below w.heap.size w w'

theorem row_none (w : World) : Row w none 0 0 [] := ⟨rfl, Nat.le_refl _, by unfold maxLen; omega, fun _ => rfl, fun x hx => by simp at hx, fun h => by omega⟩

theorem close_no {w w' : World} {L : List (List Int)} {S : List Int} (h : Bad L S ∧ Below w.heap.size w w') : CloseEnd w L S (.returned (.tuple #[.slice none 0 0, .bool false])) w' :=
  ⟨none, 0, 0, [], false, rfl, row_none _, res_false h.1, h.2⟩

end Go.Proofs.YtimfjoinjfecjaaGreat.U

namespace Go.Proofs.YtimfjoinjfecjaaGreat.U
open Go.RowKit
set_option linter.unusedVariables false

def bothF (xs : List Int) : Bool := xs.any (fun x => hasF xs (notF x))

theorem both_any (ao : Option Addr) (n cap : Nat) (xs : List Int) (w : World) (h : Row w ao n cap xs) :
    Calls Tryz.prog 104 #[.slice ao n cap] w fun e w' => e = .returned (.bool (bothF xs)) ∧ w' = w := by
  have HR : Hid (Row w ao n cap xs) := h
  have hm := h.max
  clear h
  go_enter Tryz.func104, Tryz.ntmps104
  go_wp2
  go_loop [3] (fun i => ∃ k : Nat, k ≤ n ∧ i = .int .i64 k ∧ Hid ((xs.take k).any (fun x => hasF xs (notF x)) = false)) (fun i => n - (intOf i).toNat)
  case atStart => exact ⟨0, Nat.zero_le _, rfl, rfl⟩
  case round =>
    obtain ⟨k, hk, rfl, hno⟩ := hrel
    by_cases hlt : k < n
    · obtain ⟨b, off, y, rfl, hc, hy, _, hu⟩ := HR.out.at hlt
      cases he : hasF xs (notF y)
      · have HV : Hid ((xs.take (k + 1)).any (fun x => hasF xs (notF x)) = false) := any_step hno.out hy.out he
        go_wp2_with (first
          | (go_at_call 66; with_reducible (refine (rnot_any _ _ hu).mono ?_); rintro e w1 ⟨rfl, rfl⟩)
          | (go_at_call 135; with_reducible (refine (rhas_any _ _ _ xs _ _ HR.out).mono ?_); rintro e w2 ⟨rfl, rfl⟩))
        go_round
        case rel => exact ⟨k + 1, by omega, by go_num, HV⟩
        case measure => simp [intOf]; omega
      · have HV : Hid (bothF xs = true) := any_hit hy.out he
        go_wp2_with (first
          | (go_at_call 66; with_reducible (refine (rnot_any _ _ hu).mono ?_); rintro e w1 ⟨rfl, rfl⟩)
          | (go_at_call 135; with_reducible (refine (rhas_any _ _ _ xs _ _ HR.out).mono ?_); rintro e w2 ⟨rfl, rfl⟩))
        go_ret
        exact ⟨by rw [HV.out]; rfl, rfl⟩
    · have HV : Hid (bothF xs = false) := any_end hno.out (by rw [HR.out.1]; omega)
      go_wp2
      go_ret
      exact ⟨by rw [HV.out]; rfl, rfl⟩

/-- Of a clause the literals that may hold. -/
def leftF (c now : List Int) : List Int := (dd c).filter (fun y => !hasF now (notF y))
def metF (c now : List Int) : Bool := c.any (fun y => decide (0 ≤ y) && hasF now y)

theorem left_neg {c now : List Int} {x : Int} (h : x < 0) : leftF (c ++ [x]) now = leftF c now := by
  rw [leftF, dd_snoc, add_skip (.inl h)]; rfl
theorem left_not {c now : List Int} {x : Int} (h : hasF now (notF x) = true) : leftF (c ++ [x]) now = leftF c now := by
  rw [leftF, dd_snoc]
  by_cases hd : x < 0 ∨ x ∈ dd c
  · rw [add_skip hd]; rfl
  · rw [add_new (fun e => hd (.inl e)) (fun e => hd (.inr e)), List.filter_append]
    simp [h, leftF]
theorem left_has {c now : List Int} {x : Int} (h : hasF (leftF c now) x = true) : leftF (c ++ [x]) now = leftF c now := by
  have hx : x ∈ leftF c now := (hasF_mem _ _).1 h
  rw [leftF, dd_snoc, add_skip (.inr (List.mem_filter.1 hx).1)]; rfl
theorem left_new {c now : List Int} {x : Int} (h0 : ¬ x < 0) (h1 : hasF now (notF x) = false) (h2 : hasF (leftF c now) x = false) : leftF (c ++ [x]) now = leftF c now ++ [x] := by
  have hd : x ∉ dd c := fun hx => by
    have : hasF (leftF c now) x = true := (hasF_mem _ _).2 (List.mem_filter.2 ⟨hx, by simp [h1]⟩)
    rw [h2] at this; cases this
  rw [leftF, dd_snoc, add_new h0 hd, List.filter_append]
  simp [h1, leftF]

theorem left_len (c now : List Int) : (leftF c now).length ≤ c.length := Nat.le_trans (List.length_filter_le _ _) (dd_len c)

theorem take_next {c : List Int} {k : Nat} {y : Int} (h : c[k]? = some y) : c.take (k + 1) = c.take k ++ [y] := by rw [List.take_add_one, h]; rfl

def LeftEnd (w : World) (c now : List Int) (e : Ending) (w' : World) : Prop :=
  (metF c now = true ∧ e = .returned (.tuple #[.slice none 0 0, .bool true]) ∧ Below w.heap.size w w') ∨
  (metF c now = false ∧ ∃ ao m cp, e = .returned (.tuple #[.slice ao m cp, .bool false]) ∧ Row w' ao m cp (leftF c now) ∧ Below w.heap.size w w')

set_option maxHeartbeats 2000000 in
theorem left_any (w : World) (ao : Option Addr) (n cap : Nat) (c : List Int) (hr : Row w ao n cap c) (bo : Option Addr) (m cbp : Nat) (now : List Int) (hb : Row w bo m cbp now) (hn : n ≤ 1000) :
    Calls Tryz.prog 105 #[.slice ao n cap, .slice bo m cbp] w fun e w' => LeftEnd w c now e w' := by
  have HR := hid hr
  have HB := hid hb
  have hm := hr.max
  clear hr hb
  go_enter Tryz.func105, Tryz.ntmps105
  go_wp2
  go_loopw [6, 7] (fun v i wr => ∃ q : Nat, q ≤ n ∧ i = .int .i64 q ∧ Hid (Own wr w.heap.size v (leftF (c.take q) now)) ∧ Hid (metF (c.take q) now = false) ∧ Below w.heap.size w wr) (fun _ i _ => n - (intOf i).toNat)
  case atStart => exact ⟨0, Nat.zero_le _, rfl, Own.nil _ _, rfl, Below.refl _ _⟩
  case round =>
    obtain ⟨q, hq, rfl, hown, hno, hb⟩ := hrel
    by_cases hlt : q < n
    · obtain ⟨b, off, y, rfl, hc, hy, y0, y1⟩ := (HR.out.keep hb).at hlt
      have HTN := hid (take_next hy.out)
      have HB2 := hid (HB.out.keep hb)
      by_cases hneg : y < 0
      · have HE : Hid (leftF (c.take (q + 1)) now = leftF (c.take q) now) := hid (by rw [HTN.out, left_neg hneg])
        have HN : Hid (metF (c.take (q + 1)) now = false) := any_step hno.out hy.out (by simp; omega)
        go_wp2
        go_roundw
        case rel => exact ⟨q + 1, by omega, by go_num, hid (by rw [HE.out]; exact hown.out), HN, hb⟩
        case measure => simp [intOf]; omega
      · have hpos : 0 ≤ y := by omega
        cases hmet : hasF now y
        · have HN : Hid (metF (c.take (q + 1)) now = false) := any_step hno.out hy.out (by simp [hmet])
          cases hnot : hasF now (notF y)
          · obtain ⟨ao6, n6, c6, rfl, hrow6⟩ := hown.out.shape
            cases hin : hasF (leftF (c.take q) now) y
            · have HE : Hid (leftF (c.take (q + 1)) now = leftF (c.take q) now ++ [y]) := hid (by rw [HTN.out, left_new (by omega) hnot hin])
              have HLen : (leftF (c.take q) now).length ≤ 1000 := by have := left_len (c.take q) now; simp at this; omega
              have hs := hb.size
              go_wp2_with (first
                | (go_at_call 66; with_reducible (refine (rnot_any _ _ y1).mono ?_); rintro e w1 ⟨rfl, rfl⟩)
                | (go_at_call 135; first
                  | (with_reducible (refine (rhas_any bo m cbp now _ _ HB2.out).mono ?_); rintro e w2 ⟨rfl, rfl⟩)
                  | (with_reducible (refine (rhas_any ao6 n6 c6 _ _ _ hrow6.out).mono ?_); rintro e w3 ⟨rfl, rfl⟩))
                | (at_builtin; refine append_ints rfl _ _ rfl w.heap.size _ _ [y] rfl (hown.out.alloc _) _ 1 1 rfl (row_one _ y y0 y1) (by omega) (by simp; omega) ?_; intro v4 w4 hown4 hb4))
              go_roundw
              case rel => exact ⟨q + 1, by omega, by go_num, hid (by rw [HE.out]; exact hown4.out), HN, (hb.alloc hb.size _).trans hb4.out⟩
              case measure => simp [intOf]; omega
            · have HE : Hid (leftF (c.take (q + 1)) now = leftF (c.take q) now) := hid (by rw [HTN.out, left_has hin])
              go_wp2_with (first
                | (go_at_call 66; with_reducible (refine (rnot_any _ _ y1).mono ?_); rintro e w1 ⟨rfl, rfl⟩)
                | (go_at_call 135; first
                  | (with_reducible (refine (rhas_any bo m cbp now _ _ HB2.out).mono ?_); rintro e w2 ⟨rfl, rfl⟩)
                  | (with_reducible (refine (rhas_any ao6 n6 c6 _ _ _ hrow6.out).mono ?_); rintro e w3 ⟨rfl, rfl⟩)))
              go_roundw
              case rel => exact ⟨q + 1, by omega, by go_num, hid (by rw [HE.out]; exact hown.out), HN, hb⟩
              case measure => simp [intOf]; omega
          · have HE : Hid (leftF (c.take (q + 1)) now = leftF (c.take q) now) := hid (by rw [HTN.out, left_not hnot])
            go_wp2_with (first
              | (go_at_call 66; with_reducible (refine (rnot_any _ _ y1).mono ?_); rintro e w1 ⟨rfl, rfl⟩)
              | (go_at_call 135; with_reducible (refine (rhas_any bo m cbp now _ _ HB2.out).mono ?_); rintro e w2 ⟨rfl, rfl⟩))
            go_roundw
            case rel => exact ⟨q + 1, by omega, by go_num, hid (by rw [HE.out]; exact hown.out), HN, hb⟩
            case measure => simp [intOf]; omega
        · have HV : Hid (metF c now = true) := any_hit hy.out (by simp [hmet, hpos])
          go_wp2_with (go_at_call 135; with_reducible (refine (rhas_any _ _ _ now _ _ HB2.out).mono ?_); rintro e w1 ⟨rfl, rfl⟩)
          go_ret2
          exact .inl ⟨HV.out, rfl, hb⟩
    · have HV : Hid (c.take q = c) := List.take_of_length_le (by rw [HR.out.1]; omega)
      obtain ⟨ao6, n6, c6, rfl, hrow6⟩ := hown.out.shape
      go_wp2
      go_ret2
      exact .inr ⟨by rw [← HV.out]; exact hno.out, ao6, n6, c6, rfl, by rw [← HV.out]; exact hrow6.out, hb⟩

end Go.Proofs.YtimfjoinjfecjaaGreat.U

namespace Go.Proofs.YtimfjoinjfecjaaGreat.U
open Go.RowKit
set_option linter.unusedVariables false

def posF (S : List Int) : List Int := S.filter (fun x => decide (0 ≤ x))

theorem pos_skip {S : List Int} {q : Nat} {y : Int} (h : S[q]? = some y) (hy : y < 0) : posF (S.take (q + 1)) = posF (S.take q) := by
  rw [take_next h, posF, List.filter_append]; simp [posF]; omega
theorem pos_next {S : List Int} {q : Nat} {y : Int} (h : S[q]? = some y) (hy : 0 ≤ y) : posF (S.take (q + 1)) = posF (S.take q) ++ [y] := by
  rw [take_next h, posF, List.filter_append]; simp [posF, hy]
theorem mem_pos {S : List Int} {x : Int} : x ∈ posF S ↔ x ∈ S ∧ 0 ≤ x := by simp [posF]
theorem pos_len (S : List Int) (q : Nat) : (posF (S.take q)).length ≤ S.length := by
  refine Nat.le_trans (List.length_filter_le _ _) ?_; simp; omega
theorem pos_all (S : List Int) : (posF S).length ≤ S.length := List.length_filter_le _ _

/-- What has come to hold behind the beginning. -/
structure Rc (L : List (List Int)) (S A : List Int) : Prop where
  nod : A.Nodup
  sub : ∀ x ∈ A, x ∈ lits L S
  der : ∀ x ∈ posF S ++ A, Der L S x

theorem Rc.start (L : List (List Int)) (S : List Int) : Rc L S [] := ⟨List.nodup_nil, fun x h => by simp at h, fun x h => by
  rw [List.append_nil] at h; exact .base (mem_pos.1 h).1 (mem_pos.1 h).2⟩

theorem Rc.len {L : List (List Int)} {S A : List Int} (h : Rc L S A) : A.length ≤ (lits L S).length := len_sub h.nod h.sub

def ClosedC (c now : List Int) : Prop := metF c now = true ∨ 2 ≤ (leftF c now).length

theorem met_not {c now : List Int} {x : Int} (h : metF c now = false) (hx : x ∈ c) (x0 : 0 ≤ x) : x ∉ now := by
  intro hn
  have : metF c now = true := List.any_eq_true.2 ⟨x, hx, by simp [x0, (hasF_mem now x).2 hn]⟩
  rw [h] at this; cases this

theorem left_out {c now : List Int} {y : Int} (hy : y ∈ c) (y0 : 0 ≤ y) (h : y ∉ leftF c now) : notF y ∈ now := by
  have hd := (mem_dd c y).2 ⟨hy, y0⟩
  cases hq : hasF now (notF y)
  · exact absurd (List.mem_filter.2 ⟨hd, by simp [hq]⟩) h
  · exact (hasF_mem _ _).1 hq

theorem left_in {c now : List Int} {y : Int} (h : y ∈ leftF c now) : y ∈ c ∧ 0 ≤ y ∧ notF y ∉ now := by
  obtain ⟨h1, h2⟩ := List.mem_filter.1 h
  have := (mem_dd c y).1 h1
  refine ⟨this.1, this.2, fun hn => ?_⟩
  rw [(hasF_mem _ _).2 hn] at h2; cases h2

theorem rc_both {L : List (List Int)} {S A : List Int} (h : Rc L S A) (hb : bothF (posF S ++ A) = true) : Bad L S := by
  obtain ⟨x, hx, hn⟩ := List.any_eq_true.1 hb
  exact .inl ⟨x, h.der x hx, h.der _ ((hasF_mem _ _).1 hn)⟩

theorem rc_none {L : List (List Int)} {S A c : List Int} (h : Rc L S A) (hc : c ∈ L) (hl : leftF c (posF S ++ A) = []) : Bad L S :=
  .inr ⟨c, hc, fun y hy y0 => h.der _ (left_out hy y0 (by rw [hl]; simp))⟩

theorem rc_one {L : List (List Int)} {S A c : List Int} {x : Int} (h : Rc L S A) (hc : c ∈ L) (hm : metF c (posF S ++ A) = false) (hl : leftF c (posF S ++ A) = [x]) : Rc L S (A ++ [x]) := by
  obtain ⟨hx, x0, hn⟩ := left_in (c := c) (now := posF S ++ A) (y := x) (by rw [hl]; simp)
  have hxn := met_not hm hx x0
  refine ⟨?_, fun y hy => ?_, fun y hy => ?_⟩
  · rw [List.nodup_append]
    refine ⟨h.nod, by simp, fun a ha b hb => ?_⟩
    rw [List.mem_singleton] at hb; subst hb; rintro rfl; exact hxn (List.mem_append.2 (.inr ha))
  · rcases List.mem_append.1 hy with hy | hy
    · exact h.sub y hy
    · rw [List.mem_singleton] at hy; subst hy; exact mem_lits.2 ⟨.inr ⟨c, hc, hx⟩, x0⟩
  · rw [← List.append_assoc] at hy
    rcases List.mem_append.1 hy with hy | hy
    · exact h.der y hy
    · rw [List.mem_singleton] at hy; subst hy
      exact .unit hc hx x0 fun z hz z0 hne => h.der _ (left_out hz z0 (by rw [hl]; simpa using hne))

theorem two_of {r : List Int} (hn : r.Nodup) (h : 2 ≤ r.length) : ∃ u ∈ r, ∃ v ∈ r, u ≠ v := by
  match r, hn, h with
  | a :: b :: r, hn, _ =>
    rw [List.nodup_cons] at hn
    exact ⟨a, by simp, b, by simp, fun e => hn.1 (by simp [e])⟩

theorem rc_end {L : List (List Int)} {S A : List Int} (h : Rc L S A) (hb : bothF (posF S ++ A) = false) (hc : ∀ (i : Nat) (c : List Int), L[i]? = some c → ClosedC c (posF S ++ A)) : Res L S (rise (posF S ++ A)) true := by
  have hm : ∀ z, z ∈ rise (posF S ++ A) ↔ z ∈ posF S ++ A := fun z => mem_rise _ z
  refine res_true (up_rise _) (fun x hx x0 => (hm x).2 (List.mem_append.2 (.inl (mem_pos.2 ⟨hx, x0⟩)))) (fun x hx => h.der x ((hm x).1 hx)) (fun x hx hn => ?_) fun c hcl => ?_
  · have : bothF (posF S ++ A) = true := List.any_eq_true.2 ⟨x, (hm x).1 hx, (hasF_mem _ _).2 ((hm _).1 hn)⟩
    rw [hb] at this; cases this
  · obtain ⟨i, hi, e⟩ := List.mem_iff_getElem.1 hcl
    rcases hc i c (by rw [List.getElem?_eq_getElem hi, e]) with h1 | h1
    · obtain ⟨y, hy, h2⟩ := List.any_eq_true.1 h1
      simp only [Bool.and_eq_true, decide_eq_true_eq] at h2
      exact .inl ⟨y, hy, (hm y).2 ((hasF_mem _ _).1 h2.2)⟩
    · obtain ⟨u, hu, v, hv, hne⟩ := two_of ((nodup_dd c).filter _) h1
      obtain ⟨u1, u2, u3⟩ := left_in hu
      obtain ⟨v1, v2, v3⟩ := left_in hv
      exact .inr ⟨u, u1, v, v1, hne, u2, v2, fun q => u3 ((hm _).1 q), fun q => v3 ((hm _).1 q)⟩

theorem flat_len2 {L : List (List Int)} (h : ∀ c ∈ L, c.length ≤ 100) : L.flatten.length ≤ L.length * 100 := by
  induction L with
  | nil => simp
  | cons c L ih =>
    have h1 := ih fun d hd => h d (by simp [hd])
    have h2 := h c (by simp)
    simp only [List.flatten_cons, List.length_append, List.length_cons]; omega

def lenV : Value → Nat | .slice _ n _ => n | _ => 0
def boolV : Value → Nat | .bool true => 1 | _ => 0

theorem left_yes (w : World) (ao : Option Addr) (n cap : Nat) (c : List Int) (hr : Row w ao n cap c) (bo : Option Addr) (m cbp : Nat) (now : List Int) (hb : Row w bo m cbp now) (hn : n ≤ 1000) (hm : metF c now = true) :
    Calls Tryz.prog 105 #[.slice ao n cap, .slice bo m cbp] w fun e w' => e = .returned (.tuple #[.slice none 0 0, .bool true]) ∧ Below w.heap.size w w' := by
  refine (left_any w ao n cap c hr bo m cbp now hb hn).mono fun e w' he => ?_
  rcases he with ⟨_, h1, h2⟩ | ⟨h, _⟩
  · exact ⟨h1, h2⟩
  · rw [hm] at h; cases h

theorem left_no (w : World) (ao : Option Addr) (n cap : Nat) (c : List Int) (hr : Row w ao n cap c) (bo : Option Addr) (m cbp : Nat) (now : List Int) (hb : Row w bo m cbp now) (hn : n ≤ 1000) (hm : metF c now = false) :
    Calls Tryz.prog 105 #[.slice ao n cap, .slice bo m cbp] w fun e w' => ∃ ro p, e = .returned (.tuple #[.slice ro (leftF c now).length p, .bool false]) ∧ Hid (Row w' ro (leftF c now).length p (leftF c now)) ∧ Below w.heap.size w w' := by
  refine (left_any w ao n cap c hr bo m cbp now hb hn).mono fun e w' he => ?_
  rcases he with ⟨h, _⟩ | ⟨_, ro, q, p, h1, h2, h3⟩
  · rw [hm] at h; cases h
  · obtain rfl := h2.1
    exact ⟨ro, p, h1, h2, h3⟩

def RcDone (L : List (List Int)) (S A : List Int) (g : Bool) : Prop := g = false → bothF (posF S ++ A) = false ∧ ∀ (i : Nat) (c : List Int), L[i]? = some c → ClosedC c (posF S ++ A)

/-- Clauses ahead of q are gone over. -/
def RcPart (L : List (List Int)) (S A : List Int) (q : Nat) (A2 : List Int) (g : Bool) : Prop := (g = true → A.length < A2.length) ∧ (g = false → A2 = A ∧ ∀ (j : Nat) (c : List Int), j < q → L[j]? = some c → ClosedC c (posF S ++ A2))

theorem RcPart.next {L : List (List Int)} {S A A2 c : List Int} {q : Nat} {g : Bool} (h : RcPart L S A q A2 g) (hc : L[q]? = some c) (hl : ClosedC c (posF S ++ A2)) : RcPart L S A (q + 1) A2 g := by
  refine ⟨h.1, fun hg => ⟨(h.2 hg).1, fun j d hj hd => ?_⟩⟩
  by_cases e : j = q
  · subst e; rw [hc] at hd; cases hd; exact hl
  · exact (h.2 hg).2 j d (by omega) hd

theorem RcPart.more {L : List (List Int)} {S A A2 : List Int} {q : Nat} {g : Bool} (h : RcPart L S A q A2 g) (x : Int) : RcPart L S A (q + 1) (A2 ++ [x]) true := by
  refine ⟨fun _ => ?_, fun h => by cases h⟩
  cases g
  · rw [(h.2 rfl).1]; simp
  · have := h.1 rfl; simp; omega

theorem RcPart.all {L : List (List Int)} {S A A2 : List Int} {q : Nat} {g : Bool} (h : RcPart L S A q A2 g) (hq : L.length ≤ q) (hb : bothF (posF S ++ A) = false) : RcDone L S A2 g := by
  intro hg
  obtain ⟨e, h2⟩ := h.2 hg
  subst e
  exact ⟨hb, fun i c hi => h2 i c (by have := (List.getElem?_eq_some_iff.1 hi).1; omega) hi⟩

theorem own_keep3 {w w' : World} {B : Nat} {v : Value} {xs : List Int} (h : Own w B v xs) (b : Below w.heap.size w w') : Own w' B v xs := by
  refine ⟨own_keep h.1 (r := none) ⟨b.os, b.tape, b.output, b.size, fun j hj _ => b.block j hj⟩ (fun j hj => by cases hj), h.2⟩

theorem one_cell {w : World} {ao : Option Addr} {n p : Nat} {xs : List Int} {x : Int} (h : Row w ao n p xs) (hx : xs = [x]) : ∃ b off, ao = some ⟨b, off, none⟩ ∧ w.cell? ⟨b, off, none⟩ = some (.int .i64 x) := by
  subst hx
  obtain ⟨b, off, e, hc⟩ := h.2.2.2.2.2 (by have := h.1; simp at this; omega)
  refine ⟨b, off, e, ?_⟩
  have := hc 0 (by have := h.1; simp at this; omega)
  simpa using this

set_option maxHeartbeats 2000000 in
theorem rclose_any (w : World) (la : Option Addr) (n cap : Nat) (L : List (List Int)) (gr : Grid w la n cap L) (sa : Option Addr) (sn scap : Nat) (S : List Int) (hr : Row w sa sn scap S) (hn : n ≤ 500) (hs : sn ≤ 1000) (hl : ∀ c ∈ L, c.length ≤ 100) :
    Calls Tryz.prog 67 #[.slice la n cap, .slice sa sn scap] w fun e w' => CloseEnd w L S e w' := by
  have HGR := hid gr
  have HR := hid hr
  have HL := hid hl
  have hmx := hr.max
  have hsl := hr.1
  have hK : (lits L S).length ≤ 51000 := by
    have h1 : L.flatten.length ≤ L.length * 100 := flat_len2 hl
    have h2 : (lits L S).length ≤ S.length + L.flatten.length := by
      refine Nat.le_trans (List.length_filter_le _ _) ?_; simp
    have := gr.1
    omega
  clear gr hr hl
  go_enter Tryz.func67, Tryz.ntmps67
  go_wp2
  go_loopw [6, 7] (fun v i wr => ∃ q : Nat, q ≤ sn ∧ i = .int .i64 q ∧ Hid (Own wr w.heap.size v (posF (S.take q))) ∧ Below w.heap.size w wr) (fun _ i _ => sn - (intOf i).toNat)
  case atStart => exact ⟨0, Nat.zero_le _, rfl, Own.nil _ _, Below.refl _ _⟩
  case round =>
    obtain ⟨q, hq, rfl, hown, hb⟩ := hrel
    by_cases hlt : q < sn
    · obtain ⟨b, off, y, rfl, hc, hy, y0, y1⟩ := (HR.out.keep hb).at hlt
      by_cases hneg : y < 0
      · have HE : Hid (posF (S.take (q + 1)) = posF (S.take q)) := hid (pos_skip hy.out hneg)
        have hneg' : ¬ (0 : Int) ≤ y := by omega
        go_wp2
        go_roundw
        case rel => exact ⟨q + 1, by omega, by go_num, hid (by rw [HE.out]; exact hown.out), hb⟩
        case measure => simp [intOf]; omega
      · have hpos : 0 ≤ y := by omega
        have HE : Hid (posF (S.take (q + 1)) = posF (S.take q) ++ [y]) := hid (pos_next hy.out hpos)
        have HLen : (posF (S.take q)).length ≤ 1000 := by have := pos_len S q; omega
        have hs9 := hb.size
        go_wp2_with (at_builtin; refine append_ints rfl _ _ rfl w.heap.size _ _ [y] rfl (hown.out.alloc _) _ 1 1 rfl (row_one _ y y0 y1) (by omega) (by simp; omega) ?_; intro v4 w4 hown4 hb4)
        go_roundw
        case rel => exact ⟨q + 1, by omega, by go_num, hid (by rw [HE.out]; exact hown4.out), (hb.alloc hb.size _).trans hb4.out⟩
        case measure => simp [intOf]; omega
    · have HV : Hid (S.take q = S) := List.take_of_length_le (by omega)
      have HO : Hid (Own wr w.heap.size u6 (posF S)) := hid (by rw [← HV.out]; exact hown.out)
      have HBL := hid hb
      clear hown hb
      go_wp2
      go_loopw [6, 8, 9, 10, 11] (fun v ag _ _ _ wr => ∃ (A : List Int) (g : Bool), ag = .bool g ∧ Hid (Own wr w.heap.size v (posF S ++ A)) ∧ Hid (Rc L S A) ∧ Hid (RcDone L S A g) ∧ Below w.heap.size w wr) (fun v ag _ _ _ _ => 2 * (100000 - lenV v) + boolV ag)
      case atStart => exact ⟨[], true, rfl, hid (by rw [List.append_nil]; exact HO.out), hid (Rc.start L S), hid (fun h => by cases h), HBL.out⟩
      case round =>
        clear HO HBL
        obtain ⟨A, g, rfl, hown, hrc, hdone, hb⟩ := hrel
        obtain ⟨ao6, n6, c6, rfl, hrow6⟩ := hown.out.shape
        have hn6 : n6 = (posF S ++ A).length := hrow6.out.1.symm
        have hAl := hrc.out.len
        have hPl := pos_all S
        have hn6b : n6 ≤ 52000 := by rw [hn6]; simp; omega
        cases g
        · have HD := hid (hdone.out rfl)
          have HRes := hid (rc_end hrc.out HD.out.1 HD.out.2)
          clear hn6
          go_wp2_with (go_at_call 106; with_reducible (refine (sorted_any _ _ _ _ _ hrow6.out (by omega)).mono ?_); rintro e w5 ⟨bo5, m5, c5, rfl, hrow5, hb5⟩)
          go_ret2
          exact ⟨bo5, m5, c5, _, true, rfl, hrow5.out, HRes.out, Below.next hb hb5⟩
        · cases hbo : bothF (posF S ++ A)
          · have HBO := hid hbo
            have HN6 := hid hn6
            clear hn6 hdone
            go_wp2_with (go_at_call 104; with_reducible (refine (both_any _ _ _ _ _ hrow6.out).mono ?_); rintro e w5 ⟨rfl, rfl⟩)
            go_loopw [6, 8, 9, 10, 11] (fun v ag j _ _ wr2 => ∃ (q2 : Nat) (A2 : List Int) (g2 : Bool), q2 ≤ n ∧ j = .int .i64 q2 ∧ ag = .bool g2 ∧ Hid (Own wr2 w.heap.size v (posF S ++ A2)) ∧ Hid (Rc L S A2) ∧ Hid (RcPart L S A q2 A2 g2) ∧ Below w.heap.size w wr2) (fun _ _ j _ _ _ => n - (intOf j).toNat)
            case atStart => exact ⟨0, A, false, Nat.zero_le _, rfl, rfl, hown, hrc, hid ⟨(fun h => by cases h), fun _ => ⟨rfl, fun j c hj => by omega⟩⟩, hb⟩
            case round =>
              clear hown hrc hb hrow6 hbo hAl hPl
              obtain ⟨q2, A2, g2, hq2, rfl, rfl, hown, hrc, hpart, hb⟩ := hrel
              obtain ⟨ao7, n7, c7, rfl, hrow7⟩ := hown.out.shape
              have hn7 : n7 = (posF S ++ A2).length := hrow7.out.1.symm
              have hAl := hrc.out.len
              have hPl := pos_all S
              have hn7b : n7 ≤ 52000 := by rw [hn7]; simp; omega
              have HN7 := hid hn7
              clear hn7
              by_cases hlt2 : q2 < n
              · obtain ⟨b1, off1, a1, m1, c1, ys, rfl, hc1, hy, hrow1⟩ := (HGR.out.keep hb).at hlt2
                have hmem := hid (List.mem_of_getElem? hy.out)
                have hml : m1 ≤ 1000 := by have := HL.out ys hmem.out; have := hrow1.out.1; omega
                have hm1 := hrow1.out.max
                cases hmet : metF ys (posF S ++ A2)
                · have HMET := hid hmet
                  clear hmet
                  by_cases h0 : (leftF ys (posF S ++ A2)).length = 0
                  · have HB0 := hid (rc_none hrc.out hmem.out (List.eq_nil_of_length_eq_zero h0))
                    go_wp2_with (go_at_call 105; with_reducible (refine (left_no _ a1 m1 c1 ys hrow1.out ao7 n7 c7 _ hrow7.out hml HMET.out).mono ?_); rintro e w8 ⟨ro, p8, rfl, hrow8, hb8⟩)
                    go_ret2
                    exact close_no ⟨HB0.out, Below.next hb hb8⟩
                  · by_cases h1 : (leftF ys (posF S ++ A2)).length = 1
                    · obtain ⟨x, hx⟩ : ∃ x, leftF ys (posF S ++ A2) = [x] := List.length_eq_one_iff.1 h1
                      have HX := hid hx
                      have HRC2 := hid (rc_one hrc.out hmem.out HMET.out hx)
                      have x0 : x ∈ ys := (left_in (c := ys) (now := posF S ++ A2) (y := x) (by rw [hx]; simp)).1
                      have xf := hrow1.out.2.2.2.2.1 x x0
                      clear hx
                      go_wp2_with (first
                        | (go_at_call 105; with_reducible (refine (left_no _ a1 m1 c1 ys hrow1.out ao7 n7 c7 _ hrow7.out hml HMET.out).mono ?_); rintro e w8 ⟨ro, p8, rfl, hrow8, hb8⟩; obtain ⟨b9, off9, rfl, hc9⟩ := one_cell hrow8.out HX.out; have hb9 := hid (Below.next hb hb8))
                        | (at_builtin; refine append_ints rfl _ _ rfl w.heap.size _ (posF S ++ A2) [x] rfl ((own_keep3 hown.out hb8).alloc _) _ 1 1 rfl (row_one _ x xf.1 xf.2) (by rw [← HN7.out]; omega) (by have := hb9.out.size; simp; omega) ?_; intro v4 w4 hown4 hb4))
                      go_roundw
                      case rel => exact ⟨q2 + 1, A2 ++ [x], true, by omega, by go_num, rfl, hid (by rw [← List.append_assoc]; exact hown4.out), HRC2, hid (hpart.out.more x), (hb9.out.alloc hb9.out.size _).trans hb4.out⟩
                      case measure => simp [intOf]; omega
                    · have h0' : (((leftF ys (posF S ++ A2)).length : Int) == 0) = false := beq_eq_false_iff_ne.2 (by omega)
                      have h1' : (((leftF ys (posF S ++ A2)).length : Int) == 1) = false := beq_eq_false_iff_ne.2 (by omega)
                      have HP2 := hid (hpart.out.next hy.out (.inr (by omega)))
                      go_wp2_with (go_at_call 105; with_reducible (refine (left_no _ a1 m1 c1 ys hrow1.out ao7 n7 c7 _ hrow7.out hml HMET.out).mono ?_); rintro e w8 ⟨ro, p8, rfl, hrow8, hb8⟩)
                      go_roundw
                      case rel => exact ⟨q2 + 1, A2, g2, by omega, by go_num, rfl, hid (own_keep3 hown.out hb8), hrc, HP2, Below.next hb hb8⟩
                      case measure => simp [intOf]; omega
                · have HMET := hid hmet
                  have HP2 := hid (hpart.out.next hy.out (.inl hmet))
                  clear hmet
                  go_wp2_with (go_at_call 105; with_reducible (refine (left_yes _ a1 m1 c1 ys hrow1.out ao7 n7 c7 _ hrow7.out hml HMET.out).mono ?_); rintro e w8 ⟨rfl, hb8⟩)
                  go_roundw
                  case rel => exact ⟨q2 + 1, A2, g2, by omega, by go_num, rfl, hid (own_keep3 hown.out hb8), hrc, HP2, Below.next hb hb8⟩
                  case measure => simp [intOf]; omega
              · have HD := hid (hpart.out.all (by rw [HGR.out.1]; omega) HBO.out)
                have HM : Hid (2 * (100000 - n7) + boolV (.bool g2) < 2 * (100000 - n6) + 1) := hid (by
                  cases g2
                  · have := (hpart.out.2 rfl).1
                    subst this
                    rw [HN7.out, HN6.out]; simp [boolV]
                  · have := hpart.out.1 rfl
                    have e1 := HN7.out; have e2 := HN6.out
                    simp at e1 e2
                    simp [boolV]; omega)
                go_wp2
                go_roundw
                case rel => exact ⟨A2, g2, rfl, hown, hrc, HD, hb⟩
                case measure => simpa [lenV, boolV] using HM.out
          · have HB0 := hid (rc_both hrc.out hbo)
            clear hn6
            go_wp2_with (go_at_call 104; with_reducible (refine (both_any _ _ _ _ _ hrow6.out).mono ?_); rintro e w5 ⟨rfl, rfl⟩)
            go_ret2
            exact close_no ⟨HB0.out, hb⟩

end Go.Proofs.YtimfjoinjfecjaaGreat.U
