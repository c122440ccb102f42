/-
  A line of literals, the first line, and the whole text, read.
-/
import Derived.Test.YtdhkabppcdnfeaaDoorTake
import Derived.Test.YtdhkabppcdnfeaaDoorLists
namespace Go.Proofs.YtdhkabppcdnfeaaDoor
open Go.RowKit
open Go.Lib (decDigits itoa hasPrefix trimPrefix)
set_option linter.unusedVariables false

theorem Tryd.info3 : (Tryd.prog.info? 3).map (fun i => (i.zero, i.size, i.bytes)) = some (some (.int .i64 0), 1, 8) := by kernel_rfl
theorem Tryd.info5 : (Tryd.prog.info? 5).map (fun i => (i.zero, i.size, i.bytes)) = some (some (.int .u8 0), 1, 1) := by kernel_rfl
theorem Tryd.info37 : (Tryd.prog.info? 37).map (fun i => (i.zero, i.size, i.bytes)) = some (some (.slice none 0 0), 1, 24) := by kernel_rfl

/-- One value more at the end of a list that the call has made. -/
theorem append_fresh {w w1 : World} {ops : Array Oper} {rest : List Oper} {o : Oper} {a : Act} {Q : Exit → Act → World → Prop} (hgd : o.guard = none) (s x : Operand) (T E : TypeId)
    (ho : o.op = .call { callee := .builtin .append, args := #[s, x], argTypes := #[T, T] }) (hT : Tryd.prog.underlying T = some (.slice E)) (z : Value) (by_ : Nat) (hz : z.cells.size = 1)
    (hE : (Tryd.prog.info? E).map (fun i => (i.zero, i.size, i.bytes)) = some (some z, 1, by_)) (hby : by_ ≤ 24)
    (u : Value) (hw : w = w1.alloc (.cells #[u] E)) (hu : u.oneCell' = true) (B n : Nat) (v : Value) (xs : List Value) (hs : a.eval s = v) (own : w1.ownsRow B E 1 v n xs)
    (hx : a.eval x = .slice (some ⟨w1.heap.size, 0, none⟩) 1 1) (hbd : n ≤ 100000000) (hB : B ≤ w1.heap.size)
    (h : ∀ v' w', Hid (w'.ownsRow B E 1 v' (n + 1) (xs ++ [u])) → Hid (w1.grownBy w' v.ownBlock) → wpList Tryd.prog ops Q rest (a.put o.dst v') w') : wpList Tryd.prog ops Q (o :: rest) a w := by
  subst hw
  obtain ⟨i0, hi, hz0, hz1, hz2⟩ := info_parts hE
  have hmul : (n + 1) * by_ ≤ (n + 1) * 24 := Nat.mul_le_mul_left _ hby
  refine wpList_append_own (P := Tryd.prog) (w := w1.alloc (.cells #[u] E)) hgd s x T ho B E i0 z 1 by_ hT hi hz0 hz1 hz2 hz (by decide) v n xs hs (own.alloc _) ⟨w1.heap.size, 0, none⟩ 1 1 [u] hx rfl ?_ ?_ (by unfold maxLen; omega) (by omega) (by simp; omega) ?_
  · intro j y hj
    match j, hj with
    | 0, hj => simp at hj; subst hj; simp [Addr.add]
  · intro y hy
    rw [List.mem_singleton] at hy; subst hy; exact hu
  · intro v' w' h1 h2 _
    have g1 : w1.grownBy (w1.alloc (.cells #[u] E)) v.ownBlock := World.grownBy_alloc _ _ _
    exact h v' w' h1 ⟨h2.os.trans g1.os, h2.tape.trans g1.tape, h2.output.trans g1.output, Nat.le_trans g1.size h2.size, fun j hj hn => (h2.block j (Nat.lt_of_lt_of_le hj g1.size) hn).trans (g1.block j hj hn)⟩

theorem own_low {w : World} {B B' : Nat} {E : TypeId} {v : Value} {n : Nat} {xs : List Value} (h : w.ownsRow B E 1 v n xs) (hB : B' ≤ B) : w.ownsRow B' E 1 v n xs := by
  refine ⟨h.1, ?_⟩
  rcases h.2 with h2 | ⟨g, cap, cur, e, hg, rest⟩
  · exact .inl h2
  · exact .inr ⟨g, cap, cur, e, Nat.le_trans hB hg, rest⟩

/-- Another block is written. -/
theorem own_past {w w' : World} {B S : Nat} {E : TypeId} {v : Value} {n : Nat} {xs : List Value} (h : w.ownsRow B E 1 v n xs) (g : w.grownBy w' (some S)) (hS : S < B) : w'.ownsRow B E 1 v n xs := by
  refine h.kept g (.inr fun e => ?_)
  have := (h.lt S e).1
  omega

theorem Src.past {w w' : World} {S : Nat} {bs : List UInt8} {v : Option Nat} (h : Src w S bs) (g : w.grownBy w' v) (hv : ∀ j, v = some j → S < j) : Src w' S bs := by
  show _ = _; rw [g.block S h.lt (fun e => by have := hv S e.symm; omega)]; exact h

def intsV (xs : List Int) : List Value := xs.map (Value.int .i64)

theorem row_own {w : World} {B : Nat} {v : Value} {xs : List Int} (h : w.ownsRow B 3 1 v xs.length (intsV xs)) (hf : Fit xs) : ∃ ao cap, v = .slice ao xs.length cap ∧ Row w ao xs.length cap xs := by
  rcases h.2 with ⟨rfl, hn⟩ | ⟨gb, cap, cur, rfl, hb, hg, hl, hm, rest⟩
  · rw [hn]
    exact ⟨none, 0, rfl, hn, Nat.le_refl _, by unfold maxLen; omega, fun _ => rfl, hf, fun h => by omega⟩
  · refine ⟨_, _, rfl, rfl, hl, hm, fun h => by simp at h, hf, fun _ => ⟨gb, 0, rfl, fun j hj => ?_⟩⟩
    have h3 : w.ownsRow B 3 1 (.slice (some ⟨gb, 0, none⟩) xs.length cap) xs.length (intsV xs) := h
    rw [Nat.zero_add, h3.cellAt j (by simp; omega)]
    simp [intsV, hj]

/-- How much is left. -/
def left (S : Nat) (w : World) : Nat := match w.cell? ⟨S, 0, none⟩ with
  | some (.string s) => s.size
  | _ => 0
theorem left_src {w : World} {S : Nat} {bs : List UInt8} (h : Src w S bs) : left S w = bs.length := by
  unfold left; rw [h.cell]; rfl

def ClEnd (S vars : Nat) (bs : List UInt8) (w : World) (e : Ending) (w' : World) : Prop :=
  (∃ c r, clauseP vars bs = some (c, r) ∧ ∃ v, e = .returned (.tuple #[v, .nilIface]) ∧ w'.ownsRow w.heap.size 3 1 v c.length (intsV c) ∧ Src w' S r ∧ w.grownBy w' (some S)) ∨
  (clauseP vars bs = none ∧ ∃ m, e = .returned (.tuple #[.slice none 0 0, .iface 50 (.agg #[.string m])]) ∧ w.grownBy w' (some S))

theorem cl_end {vars k : Nat} {rest : List UInt8} (h : hasPrefix rest [48, 10] = true) : clP vars (k + 1) rest = some ([], rest.drop 2) := by
  simp only [clP]; rw [if_pos h]
theorem cl_nolit {vars k : Nat} {rest : List UInt8} (h : hasPrefix rest [48, 10] = false) (hl : litP vars rest = none) : clP vars (k + 1) rest = none := by
  simp only [clP]; rw [if_neg (by simp [h]), hl]
theorem cl_noblank {vars k : Nat} {rest r : List UInt8} {x : Int} (h : hasPrefix rest [48, 10] = false) (hl : litP vars rest = some (x, r)) (hb : hasPrefix r [32] = false) : clP vars (k + 1) rest = none := by
  simp only [clP]; rw [if_neg (by simp [h]), hl]; simp [hb]
theorem cl_more {vars k : Nat} {rest r : List UInt8} {x : Int} (h : hasPrefix rest [48, 10] = false) (hl : litP vars rest = some (x, r)) (hb : hasPrefix r [32] = true) : clP vars (k + 1) rest = (clP vars k (r.drop 1)).map (fun p => (x :: p.1, p.2)) := by
  simp only [clP]; rw [if_neg (by simp [h]), hl]; simp [hb]

set_option maxHeartbeats 4000000 in
theorem clause_all (S vars : Nat) (bs : List UInt8) (w : World) (h : Src w S bs) (hv : vars ≤ 1048576) (hb : bs.length ≤ 1000000) :
    Calls Tryd.prog 30 #[.pointer (some ⟨S, 0, none⟩), .int .i64 vars] w fun e w' => ClEnd S vars bs w e w' := by
  have HS : Hid (Src w S bs) := h
  have hSw := h.lt
  clear h
  go_enter Tryd.func30, Tryd.ntmps30
  go_wp2
  go_loopw [6] (fun cv wr => ∃ (xs : List Int) (rest : List UInt8) (k : Nat), Hid (wr.ownsRow w.heap.size 3 1 cv xs.length (intsV xs)) ∧ Hid (Src wr S rest) ∧ Hid (w.grownBy wr (some S)) ∧ rest.length < k ∧ xs.length + rest.length ≤ 1000000 ∧ Hid (clauseP vars bs = (clP vars k rest).map (fun p => (xs ++ p.1, p.2)))) (fun _ wr => left S wr)
  case atStart => exact ⟨[], bs, bs.length + 1, World.ownsRow_nil _ _ _ _, HS, World.grownBy.refl _ _, by omega, by simpa using hb, hid (by simp [clauseP])⟩
  case round =>
    obtain ⟨xs, rest, k, hown, hs, hg, hk, hle, hcl⟩ := hrel
    obtain ⟨k, rfl⟩ : ∃ j, k = j + 1 := ⟨k - 1, by omega⟩
    have hb0 : rest.length ≤ 1000000 := by omega
    cases hp : hasPrefix rest [48, 10]
    · have HP := hid hp
      clear hp
      rcases hl : litP vars rest with _ | ⟨x, r⟩
      · have HL := hid hl
        clear hl
        have HE : Hid (clauseP vars bs = none) := by show _ = _; rw [hcl.out, cl_nolit HP.out HL.out]; rfl
        go_wp2_with (first
          | (go_at_call 40; with_reducible (refine (take_not S rest [48, 10] _ hs.out HP.out).mono ?_); rintro e w1 ⟨rfl, hs1, hg1⟩)
          | (go_at_call 42; with_reducible (refine (literal_bad S vars rest _ hs1.out hv hb0 HL.out).mono ?_); rintro e w2 ⟨m, rfl, hg2⟩))
        go_ret2
        exact .inr ⟨HE.out, _, rfl, grown_two (grown_two hg.out hg1.out) hg2.out⟩
      · have HL := hid hl
        clear hl
        cases hbl : hasPrefix r [32]
        · have HB := hid hbl
          clear hbl
          have HE : Hid (clauseP vars bs = none) := by show _ = _; rw [hcl.out, cl_noblank HP.out HL.out HB.out]; rfl
          go_wp2_with (first
            | (go_at_call 40; first
              | (with_reducible (refine (take_not S rest [48, 10] _ hs.out HP.out).mono ?_); rintro e w1 ⟨rfl, hs1, hg1⟩)
              | (with_reducible (refine (take_not S r [32] _ hs2.out HB.out).mono ?_); rintro e w3 ⟨rfl, hs3, hg3⟩))
            | (go_at_call 42; with_reducible (refine (literal_ok S vars x rest r _ hs1.out hv hb0 HL.out).mono ?_); rintro e w2 ⟨rfl, hs2, hg2⟩))
          go_ret2
          exact .inr ⟨HE.out, _, rfl, grown_two (grown_two (grown_two hg.out hg1.out) hg2.out) hg3.out⟩
        · have HB := hid hbl
          have HLen : Hid ((r.drop 1).length < k ∧ (r.drop 1).length < rest.length ∧ xs.length + 1 + (r.drop 1).length ≤ 1000000) := by
            obtain ⟨t, rfl⟩ := hp_iff.1 hbl
            obtain ⟨e1, _⟩ := litP_some HL.out
            have := congrArg List.length e1
            simp at this
            show _ ∧ _ ∧ _
            simp; omega
          clear hbl
          have HE : Hid (clauseP vars bs = (clP vars k (r.drop 1)).map (fun p => ((xs ++ [x]) ++ p.1, p.2))) := by
            show _ = _; rw [hcl.out, cl_more HP.out HL.out HB.out, Option.map_map]; congr 1; funext p; simp
          have hbx : xs.length ≤ 100000000 := by omega
          go_wp2_with (first
            | (go_at_call 40; first
              | (with_reducible (refine (take_not S rest [48, 10] _ hs.out HP.out).mono ?_); rintro e w1 ⟨rfl, hs1, hg1⟩)
              | (with_reducible (refine (take_yes S r [32] _ hs2.out HB.out).mono ?_); rintro e w3 ⟨rfl, hs3, hg3⟩))
            | (go_at_call 42; with_reducible (refine (literal_ok S vars x rest r _ hs1.out hv hb0 HL.out).mono ?_); rintro e w2 ⟨rfl, hs2, hg2⟩)
            | (at_builtin; refine append_fresh (w1 := w3) rfl _ _ 37 3 rfl Tryd.underlying37 (.int .i64 0) 8 rfl Tryd.info3 (by omega) (.int .i64 x) rfl rfl w.heap.size xs.length _ (intsV xs) rfl (own_past (own_past (own_past hown.out hg1.out hSw) hg2.out hSw) hg3.out hSw) rfl hbx (by have := (grown_two (grown_two (grown_two hg.out hg1.out) hg2.out) hg3.out).size; exact this) ?_; intro v4 w4 hown4 hg4))
          have hg4' : w3.grownBy w4 u6.ownBlock := hg4.out
          have hlow : ∀ j, u6.ownBlock = some j → w.heap.size ≤ j := fun j hj => (hown.out.lt j hj).1
          have hs4 : Src w4 S (r.drop 1) := hs3.out.past hg4' (fun j hj => by have := hlow j hj; omega)
          have HS4 := hid hs4
          have HG4 : Hid (w.grownBy w4 (some S)) := grown_own (grown_two (grown_two (grown_two hg.out hg1.out) hg2.out) hg3.out) hg4' hlow
          go_roundw
          case rel => exact ⟨xs ++ [x], r.drop 1, k, hid (by have := hown4.out; simpa [intsV] using this), HS4, HG4, HLen.out.1, by have := HLen.out.2.2; simp at this ⊢; omega, HE⟩
          case measure => rw [left_src HS4.out, left_src hs.out]; exact HLen.out.2.1
    · have HP := hid hp
      clear hp
      have HE : Hid (clauseP vars bs = some (xs, rest.drop 2)) := by show _ = _; rw [hcl.out, cl_end HP.out]; simp
      go_wp2_with (go_at_call 40; with_reducible (refine (take_yes S rest [48, 10] _ hs.out HP.out).mono ?_); rintro e w1 ⟨rfl, hs1, hg1⟩)
      go_ret2
      exact .inl ⟨xs, _, HE.out, _, rfl, own_past hown.out hg1.out hSw, hs1.out, grown_two hg.out hg1.out⟩

theorem slice_own {w : World} {B : Nat} {E : TypeId} {v : Value} {n : Nat} {xs : List Value} (h : w.ownsRow B E 1 v n xs) : ∃ ao cap, v = .slice ao n cap := by
  rcases h.2 with ⟨rfl, rfl⟩ | ⟨g, cap, cur, rfl, _⟩
  · exact ⟨none, 0, rfl⟩
  · exact ⟨_, _, rfl⟩

theorem clause_ok (S vars : Nat) (bs r : List UInt8) (c : List Int) (w : World) (h : Src w S bs) (hv : vars ≤ 1048576) (hb : bs.length ≤ 1000000) (hc : clauseP vars bs = some (c, r)) :
    Calls Tryd.prog 30 #[.pointer (some ⟨S, 0, none⟩), .int .i64 vars] w fun e w' => ∃ ao cap, e = .returned (.tuple #[.slice ao c.length cap, .nilIface]) ∧ Hid (w'.ownsRow w.heap.size 3 1 (.slice ao c.length cap) c.length (intsV c)) ∧ Hid (Src w' S r) ∧ Hid (w.grownBy w' (some S)) := by
  refine (clause_all S vars bs w h hv hb).mono fun e w' he => ?_
  rcases he with ⟨c', r', e1, v, e2, h1, h2, h3⟩ | ⟨e1, _⟩
  · rw [hc] at e1
    simp only [Option.some.injEq, Prod.mk.injEq] at e1
    obtain ⟨rfl, rfl⟩ := e1
    obtain ⟨ao, cap, rfl⟩ := slice_own h1
    exact ⟨ao, cap, e2, h1, h2, h3⟩
  · rw [hc] at e1; cases e1

theorem clause_bad (S vars : Nat) (bs : List UInt8) (w : World) (h : Src w S bs) (hv : vars ≤ 1048576) (hb : bs.length ≤ 1000000) (hc : clauseP vars bs = none) :
    Calls Tryd.prog 30 #[.pointer (some ⟨S, 0, none⟩), .int .i64 vars] w fun e w' => ∃ m, e = .returned (.tuple #[.slice none 0 0, .iface 50 (.agg #[.string m])]) ∧ Hid (w.grownBy w' (some S)) := by
  refine (clause_all S vars bs w h hv hb).mono fun e w' he => ?_
  rcases he with ⟨c', r', e1, _⟩ | ⟨_, m, e2, h3⟩
  · rw [hc] at e1; cases e1
  · exact ⟨m, e2, h3⟩

/-! ### The first line -/
theorem head_0 {bs : List UInt8} (h : hasPrefix bs kindT = false) : headP bs = none := by unfold headP; rw [if_neg (by simp [h])]
theorem head_1 {bs : List UInt8} (h : hasPrefix bs kindT = true) (h1 : numP 1048576 (bs.drop 6) = none) : headP bs = none := by unfold headP; rw [if_pos h, h1]
theorem head_2 {bs r : List UInt8} {v : Nat} (h : hasPrefix bs kindT = true) (h1 : numP 1048576 (bs.drop 6) = some (v, r)) (h2 : hasPrefix r [32] = false) : headP bs = none := by unfold headP; rw [if_pos h, h1]; simp [h2]
theorem head_3 {bs r : List UInt8} {v : Nat} (h : hasPrefix bs kindT = true) (h1 : numP 1048576 (bs.drop 6) = some (v, r)) (h2 : hasPrefix r [32] = true) (h3 : numP 1048576 (r.drop 1) = none) : headP bs = none := by unfold headP; rw [if_pos h, h1]; simp only []; rw [if_pos h2, h3]
theorem head_4 {bs r r' : List UInt8} {v n : Nat} (h : hasPrefix bs kindT = true) (h1 : numP 1048576 (bs.drop 6) = some (v, r)) (h2 : hasPrefix r [32] = true) (h3 : numP 1048576 (r.drop 1) = some (n, r')) (h4 : hasPrefix r' [10] = false) : headP bs = none := by unfold headP; rw [if_pos h, h1]; simp only []; rw [if_pos h2, h3]; simp [h4]
theorem head_5 {bs r r' : List UInt8} {v n : Nat} (h : hasPrefix bs kindT = true) (h1 : numP 1048576 (bs.drop 6) = some (v, r)) (h2 : hasPrefix r [32] = true) (h3 : numP 1048576 (r.drop 1) = some (n, r')) (h4 : hasPrefix r' [10] = true) : headP bs = some (v, n, r'.drop 1) := by unfold headP; rw [if_pos h, h1]; simp only []; rw [if_pos h2, h3]; simp [h4]

def HeadEnd (S : Nat) (bs : List UInt8) (w : World) (e : Ending) (w' : World) : Prop :=
  (∃ v n r, headP bs = some (v, n, r) ∧ e = .returned (.tuple #[.int .i64 (v : Nat), .int .i64 (n : Nat), .nilIface]) ∧ Src w' S r ∧ w.grownBy w' (some S)) ∨
  (headP bs = none ∧ ∃ m, e = .returned (.tuple #[.int .i64 0, .int .i64 0, .iface 50 (.agg #[.string m])]) ∧ w.grownBy w' (some S))

set_option maxHeartbeats 4000000 in
theorem head_all (S : Nat) (bs : List UInt8) (w : World) (h : Src w S bs) (hb : bs.length ≤ 1000000) :
    Calls Tryd.prog 29 #[.pointer (some ⟨S, 0, none⟩)] w fun e w' => HeadEnd S bs w e w' := by
  have HS : Hid (Src w S bs) := h
  clear h
  have hb1 : (bs.drop 6).length ≤ 1000000 := by simp; omega
  cases hp : hasPrefix bs kindT
  · have HP : Hid (hasPrefix bs [112, 32, 99, 110, 102, 32] = false) := hp
    have HE := hid (head_0 hp)
    clear hp
    go_enter Tryd.func29, Tryd.ntmps29
    go_wp2_with (go_at_call 40; with_reducible (refine (take_not S bs [112, 32, 99, 110, 102, 32] _ HS.out HP.out).mono ?_); rintro e w1 ⟨rfl, hs1, hg1⟩)
    go_ret3
    exact .inr ⟨HE.out, _, rfl, hg1.out⟩
  have HP : Hid (hasPrefix bs [112, 32, 99, 110, 102, 32] = true) := hp
  clear hp
  rcases hn : numP 1048576 (bs.drop 6) with _ | ⟨v, r⟩
  · have HN := hid hn
    have HE := hid (head_1 HP.out hn)
    clear hn
    go_enter Tryd.func29, Tryd.ntmps29
    go_wp2_with (first
      | (go_at_call 40; with_reducible (refine (take_yes S bs [112, 32, 99, 110, 102, 32] _ HS.out HP.out).mono ?_); rintro e w1 ⟨rfl, hs1, hg1⟩)
      | (go_at_call 41; refine (number_bad S 1048576 (bs.drop 6) _ hs1.out (Nat.le_refl _) hb1 HN.out).mono ?_; rintro e w2 ⟨m, rfl, hg2⟩))
    go_ret3
    exact .inr ⟨HE.out, _, rfl, grown_two hg1.out hg2.out⟩
  have HN := hid hn
  have hb2 : r.length ≤ 1000000 := by
    obtain ⟨e1, _⟩ := numP_some hn
    have := congrArg List.length e1
    rw [List.length_append] at this
    omega
  have hb3 : (r.drop 1).length ≤ 1000000 := by simp; omega
  clear hn
  cases hp2 : hasPrefix r [32]
  · have HP2 := hid hp2
    have HE := hid (head_2 HP.out HN.out hp2)
    clear hp2
    go_enter Tryd.func29, Tryd.ntmps29
    go_wp2_with (first
      | (go_at_call 40; first
        | (with_reducible (refine (take_yes S bs [112, 32, 99, 110, 102, 32] _ HS.out HP.out).mono ?_); rintro e w1 ⟨rfl, hs1, hg1⟩)
        | (with_reducible (refine (take_not S r [32] _ hs2.out HP2.out).mono ?_); rintro e w3 ⟨rfl, hs3, hg3⟩))
      | (go_at_call 41; refine (number_ok S 1048576 v (bs.drop 6) r _ hs1.out (Nat.le_refl _) hb1 HN.out).mono ?_; rintro e w2 ⟨rfl, hs2, hg2⟩))
    go_ret3
    exact .inr ⟨HE.out, _, rfl, grown_two (grown_two hg1.out hg2.out) hg3.out⟩
  have HP2 := hid hp2
  clear hp2
  rcases hn : numP 1048576 (r.drop 1) with _ | ⟨n, r'⟩
  · have HN2 := hid hn
    have HE := hid (head_3 HP.out HN.out HP2.out hn)
    clear hn
    go_enter Tryd.func29, Tryd.ntmps29
    go_wp2_with (first
      | (go_at_call 40; first
        | (with_reducible (refine (take_yes S bs [112, 32, 99, 110, 102, 32] _ HS.out HP.out).mono ?_); rintro e w1 ⟨rfl, hs1, hg1⟩)
        | (with_reducible (refine (take_yes S r [32] _ hs2.out HP2.out).mono ?_); rintro e w3 ⟨rfl, hs3, hg3⟩))
      | (go_at_call 41; first
        | (refine (number_ok S 1048576 v (bs.drop 6) r _ hs1.out (Nat.le_refl _) hb1 HN.out).mono ?_; rintro e w2 ⟨rfl, hs2, hg2⟩)
        | (refine (number_bad S 1048576 (r.drop 1) _ hs3.out (Nat.le_refl _) hb3 HN2.out).mono ?_; rintro e w4 ⟨m, rfl, hg4⟩)))
    go_ret3
    exact .inr ⟨HE.out, _, rfl, grown_two (grown_two (grown_two hg1.out hg2.out) hg3.out) hg4.out⟩
  have HN2 := hid hn
  clear hn
  cases hp3 : hasPrefix r' [10]
  · have HP3 := hid hp3
    have HE := hid (head_4 HP.out HN.out HP2.out HN2.out hp3)
    clear hp3
    go_enter Tryd.func29, Tryd.ntmps29
    go_wp2_with (first
      | (go_at_call 40; first
        | (with_reducible (refine (take_yes S bs [112, 32, 99, 110, 102, 32] _ HS.out HP.out).mono ?_); rintro e w1 ⟨rfl, hs1, hg1⟩)
        | (with_reducible (refine (take_yes S r [32] _ hs2.out HP2.out).mono ?_); rintro e w3 ⟨rfl, hs3, hg3⟩)
        | (with_reducible (refine (take_not S r' [10] _ hs4.out HP3.out).mono ?_); rintro e w5 ⟨rfl, hs5, hg5⟩))
      | (go_at_call 41; first
        | (refine (number_ok S 1048576 v (bs.drop 6) r _ hs1.out (Nat.le_refl _) hb1 HN.out).mono ?_; rintro e w2 ⟨rfl, hs2, hg2⟩)
        | (refine (number_ok S 1048576 n (r.drop 1) r' _ hs3.out (Nat.le_refl _) hb3 HN2.out).mono ?_; rintro e w4 ⟨rfl, hs4, hg4⟩)))
    go_ret3
    exact .inr ⟨HE.out, _, rfl, grown_two (grown_two (grown_two (grown_two hg1.out hg2.out) hg3.out) hg4.out) hg5.out⟩
  · have HP3 := hid hp3
    have HE := hid (head_5 HP.out HN.out HP2.out HN2.out hp3)
    clear hp3
    go_enter Tryd.func29, Tryd.ntmps29
    go_wp2_with (first
      | (go_at_call 40; first
        | (with_reducible (refine (take_yes S bs [112, 32, 99, 110, 102, 32] _ HS.out HP.out).mono ?_); rintro e w1 ⟨rfl, hs1, hg1⟩)
        | (with_reducible (refine (take_yes S r [32] _ hs2.out HP2.out).mono ?_); rintro e w3 ⟨rfl, hs3, hg3⟩)
        | (with_reducible (refine (take_yes S r' [10] _ hs4.out HP3.out).mono ?_); rintro e w5 ⟨rfl, hs5, hg5⟩))
      | (go_at_call 41; first
        | (refine (number_ok S 1048576 v (bs.drop 6) r _ hs1.out (Nat.le_refl _) hb1 HN.out).mono ?_; rintro e w2 ⟨rfl, hs2, hg2⟩)
        | (refine (number_ok S 1048576 n (r.drop 1) r' _ hs3.out (Nat.le_refl _) hb3 HN2.out).mono ?_; rintro e w4 ⟨rfl, hs4, hg4⟩)))
    go_ret3
    exact .inl ⟨v, n, _, HE.out, rfl, hs5.out, grown_two (grown_two (grown_two (grown_two hg1.out hg2.out) hg3.out) hg4.out) hg5.out⟩

theorem head_ok (S v n : Nat) (bs r : List UInt8) (w : World) (h : Src w S bs) (hb : bs.length ≤ 1000000) (hh : headP bs = some (v, n, r)) :
    Calls Tryd.prog 29 #[.pointer (some ⟨S, 0, none⟩)] w fun e w' => e = .returned (.tuple #[.int .i64 v, .int .i64 n, .nilIface]) ∧ Hid (Src w' S r) ∧ Hid (w.grownBy w' (some S)) := by
  refine (head_all S bs w h hb).mono fun e w' he => ?_
  rcases he with ⟨v', n', r', e1, e2, h2, h3⟩ | ⟨e1, _⟩
  · rw [hh] at e1
    simp only [Option.some.injEq, Prod.mk.injEq] at e1
    obtain ⟨rfl, rfl, rfl⟩ := e1
    exact ⟨e2, h2, h3⟩
  · rw [hh] at e1; cases e1

theorem head_bad (S : Nat) (bs : List UInt8) (w : World) (h : Src w S bs) (hb : bs.length ≤ 1000000) (hh : headP bs = none) :
    Calls Tryd.prog 29 #[.pointer (some ⟨S, 0, none⟩)] w fun e w' => ∃ m, e = .returned (.tuple #[.int .i64 0, .int .i64 0, .iface 50 (.agg #[.string m])]) ∧ Hid (w.grownBy w' (some S)) := by
  refine (head_all S bs w h hb).mono fun e w' he => ?_
  rcases he with ⟨v', n', r', e1, _⟩ | ⟨_, m, e2, h3⟩
  · rw [hh] at e1; cases e1
  · exact ⟨m, e2, h3⟩

end Go.Proofs.YtdhkabppcdnfeaaDoor
