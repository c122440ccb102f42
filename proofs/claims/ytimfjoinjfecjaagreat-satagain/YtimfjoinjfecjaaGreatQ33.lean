/-
  Learn: what a conflict teaches.
  begin: a new solver.
-/
import Derived.Test.YtimfjoinjfecjaaGreatQ32
import Derived.Sort.OwnSortedInts
import Derived.Deep.WholeRow
import Derived.Test.YtimfjoinjfecjaaGreatQ26

namespace Go.Proofs.YtimfjoinjfecjaaGreat
open Go.RowKit Go.Sort
set_option linter.unusedVariables false

section
variable {k : SK} {w0 w w1 w' : World} {kt : K} {L : List E} {lev : Nat} {p : V} {cls : List (List Int)} {s s' : PS} {v v' : SV} {n : Nat}

def riseI (l : List Int) : List Int := l.mergeSort fun x y => decide (x ≤ y)

/-- The variables that were met are sorted. -/
theorem sort_met {B : Nat} {x : Value} {xs : List Int} (own : OwnL w B x xs) (hl : xs.length ≤ 100000) :
    Calls Tryz.prog 84 #[x] w fun e w' => e = .returned (.tuple #[]) ∧ ∃ go, Hid (w.grownBy w' go) ∧ Hid (∀ j, go = some j → x.ownBlock = some j) ∧ Hid (OwnL w' B x (riseI xs)) := by
  have hlen : (riseI xs).length = xs.length := by unfold riseI; simp [List.length_mergeSort]
  rcases own.2 with ⟨rfl, h2⟩ | ⟨g, cap, cur, rfl, hb, hg, h3, h4, h5, h6⟩
  · have e0 : xs = [] := List.eq_nil_of_length_eq_zero h2
    subst e0
    refine (Tryz.slices_Sort_int_none none 0 w).mono ?_
    rintro e w' ⟨rfl, rfl⟩
    exact ⟨rfl, none, ⟨rfl, rfl, rfl, Nat.le_refl _, fun _ _ _ => rfl⟩, fun j e => (by cases e), hid (by simpa [riseI] using own)⟩
  · have hH : Holds (Value.int .i64) w g 0 xs.toArray := holds_of_blockI hg (by rw [Nat.mul_one] at h6; exact h6)
    refine (Tryz.slices_Sort_int g 0 cap xs w hH (blk_lt hg) (by omega)).mono ?_
    rintro e w' ⟨rfl, q, os, rfl⟩
    refine ⟨rfl, some g, grownBy_sortedI _, fun j e => by cases e; rfl, hid ?_⟩
    have := ownsRow_sortedI (w := w) (n := q) (os := os) (ss := xs) (ts := riseI xs) hlen hb hg h3 h4 h5
    unfold OwnL
    rw [hlen]
    exact this

theorem backLevel_one (x : Addr) (ao : Option Addr) (m c : Nat) (hm : (m : Int) < 2) : Calls Tryz.prog 85 #[.pointer (some x), .slice ao m c] w fun e w' => e = .returned (.int .i64 0) ∧ w' = w := by
  go_enter Tryz.func85, Tryz.ntmps85
  go_wp2
  go_ret
  exact ⟨rfl, rfl⟩

theorem backLevel_more (h : Lv k kt L lev p w) (g c m y : Nat) (hm : ¬ (m : Int) < 2) (hm1 : (1 : Int) < m) (hy : (y : Int) ≤ 9223372036854775807) (hc : w.cell? ⟨g, 1, none⟩ = some (.int .i64 y)) {ll : Int} (hl : levelF L ((y / 2 : Nat) : Int) = ll) :
    Calls Tryz.prog 85 #[.pointer (some ⟨k.SB, 0, none⟩), .slice (some ⟨g, 0, none⟩) m c] w fun e w' => e = .returned (.int .i64 ll) ∧ Hid (Gr w w') := by
  have HL := hid h
  have HLL := hid hl
  clear h hl
  go_enter Tryz.func85, Tryz.ntmps85
  go_wp2_with (go_at_call 125; with_reducible (refine (levelOf_is HL.out _ hy HLL.out).mono ?_); rintro e w2 ⟨rfl, b2⟩)
  go_ret
  exact ⟨rfl, b2⟩

/-! ### The beginning -/
def z3 (z : Array Value) (a b c : Value) : Array Value := ((z.setIfInBounds 0 a).setIfInBounds 1 b).setIfInBounds 2 c

theorem z71_one : Tryz.zeroCells124.all (·.oneCell') = true := by kernel_rfl
theorem z71_info : (Tryz.prog.info? 124).map (·.size) = some 262 := by kernel_rfl

theorem all_set {c : Array Value} {i : Nat} {x : Value} (h : c.all (·.oneCell') = true) (hx : x.oneCell' = true) : (c.setIfInBounds i x).all (·.oneCell') = true := by
  rw [Array.all_eq_true] at h ⊢
  intro j hj
  have hj' : j < c.size := by simpa using hj
  rw [Array.getElem_setIfInBounds]
  split
  · exact hx
  · exact h j hj'

theorem store71 (w : World) (a b c : Value) (ha : a.oneCell' = true) (hb : b.oneCell' = true) (hc : c.oneCell' = true) :
    (storeCells ⟨w.heap.size, 0, none⟩ (((Tryz.zeroCells124.toList.set 0 a).set 1 b).set 2 c)).run Tryz.prog (w.alloc (.cells Tryz.zeroCells124 124)) = .ok () (w.alloc (.cells (z3 Tryz.zeroCells124 a b c) 124)) := by
  have := run_storeCells_new (P := Tryz.prog) w 124 Tryz.zeroCells124 (z3 Tryz.zeroCells124 a b c) (by rw [z71_info]; simp [z3]) (by simp [z3]) (all_set (all_set (all_set z71_one ha) hb) hc)
  simpa only [z3, Array.toList_setIfInBounds] using this

theorem z71_at (a b c : Value) : (z3 Tryz.zeroCells124 a b c)[0]? = some a ∧ (z3 Tryz.zeroCells124 a b c)[1]? = some b ∧ (z3 Tryz.zeroCells124 a b c)[2]? = some c ∧ (z3 Tryz.zeroCells124 a b c)[3]? = some (.pointer none) ∧ (z3 Tryz.zeroCells124 a b c)[259]? = some (.slice none 0 0) ∧ (z3 Tryz.zeroCells124 a b c)[260]? = some (.int .i64 0) ∧ (z3 Tryz.zeroCells124 a b c)[261]? = some (.slice none 0 0) := by
  have h0 : Tryz.zeroCells124[0]? = some (.pointer none) := by kernel_rfl
  have h1 : Tryz.zeroCells124[1]? = some (.slice none 0 0) := by kernel_rfl
  have h2 : Tryz.zeroCells124[2]? = some (.int .i64 0) := by kernel_rfl
  have h3 : Tryz.zeroCells124[3]? = some (.pointer none) := by kernel_rfl
  have h4 : Tryz.zeroCells124[259]? = some (.slice none 0 0) := by kernel_rfl
  have h5 : Tryz.zeroCells124[260]? = some (.int .i64 0) := by kernel_rfl
  have h6 : Tryz.zeroCells124[261]? = some (.slice none 0 0) := by kernel_rfl
  unfold z3
  refine ⟨?_, ?_, ?_, ?_, ?_, ?_, ?_⟩
  · rw [set_ne _ (by decide), set_ne _ (by decide), set_eq _ h0]
  · rw [set_ne _ (by decide)]; exact set_eq _ ((set_ne _ (by decide)).trans h1)
  · exact set_eq _ ((set_ne _ (by decide)).trans ((set_ne _ (by decide)).trans h2))
  · rw [set_ne _ (by decide), set_ne _ (by decide), set_ne _ (by decide), h3]
  · rw [set_ne _ (by decide), set_ne _ (by decide), set_ne _ (by decide), h4]
  · rw [set_ne _ (by decide), set_ne _ (by decide), set_ne _ (by decide), h5]
  · rw [set_ne _ (by decide), set_ne _ (by decide), set_ne _ (by decide), h6]

def v00 : SV := ⟨.slice none 0 0, .slice none 0 0, none⟩
def kOf (w : World) (kt : K) (la : Option Addr) (ln cap lev : Nat) : SK := ⟨w.heap.size, w.heap.size, .pointer (some ⟨kt.OB, 0, none⟩), .slice la ln cap, lev⟩

theorem start_is (t : Trl kt w L lev p) {la : Option Addr} {ln cap : Nat} (gr : U.Grid w la ln cap cls) (hn : kt.n ≤ 4096) :
    Cm (kOf w kt la ln cap lev) w kt L lev p cls ∧ Rn (kOf w kt la ln cap lev) w kt.n (w.alloc (.cells (z3 Tryz.zeroCells124 (.pointer (some ⟨kt.OB, 0, none⟩)) (.slice la ln cap) (.int .i64 lev)) 124)) zeroP v00 := by
  refine ⟨⟨rfl, t, rfl, rfl, ⟨la, ln, cap, rfl, gr⟩, hn⟩, ⟨⟨_, new_same w _, ?_⟩, Nat.le_refl _, fun i _ => rfl, fun b e => (by cases e), World.ownsRow_nil _ _ _ _, World.ownsRow_nil _ _ _ _, fun j e => (by simp [v00, Value.ownBlock] at e)⟩, by go_grown, Wf.zero _, fun i => Nat.zero_le _⟩
  exact z71_at _ _ _

set_option maxRecDepth 100000 in
set_option maxHeartbeats 2000000 in
theorem learn_zero (t : Trl kt w L 0 p) (la : Option Addr) (ln cap : Nat) (x : Int) :
    Calls Tryz.prog 51 #[.pointer (some ⟨kt.OB, 0, none⟩), .slice la ln cap, .int .i64 x] w fun e w' => e = .returned (.tuple #[.slice none 0 0, .int .i64 0, .slice none 0 0, .bool false]) ∧ Below w.heap.size w w' := by
  have HT := hid t
  have hst := store71 w (.pointer (some ⟨kt.OB, 0, none⟩)) (.slice la ln cap) (.int .i64 0) rfl rfl rfl
  obtain ⟨Z, hZ⟩ : ∃ Z, Z = z3 Tryz.zeroCells124 (.pointer (some ⟨kt.OB, 0, none⟩)) (.slice la ln cap) (.int .i64 0) := ⟨_, rfl⟩
  rw [← hZ] at hst
  have h2 : Z[2]? = some (.int .i64 0) := by rw [hZ]; exact (z71_at _ _ _).2.2.1
  clear t hZ
  go_enter Tryz.func51, Tryz.ntmps51
  go_wp2_with (go_at_call 32; with_reducible (refine (levels_is HT.out).mono ?_); rintro e w ⟨rfl, rfl⟩)
  go_returns
  exact ⟨rfl, by go_grown⟩
end

end Go.Proofs.YtimfjoinjfecjaaGreat

namespace Go.Proofs.YtimfjoinjfecjaaGreat
open Go.RowKit Go.Maps
set_option linter.unusedVariables false

def s0F (n : Nat) : SS := ⟨[], 0, [], Od.zeros n, Od.nones n, [], [], [], [], 1000, List.replicate n false, 131072, 0, 0, 0⟩

theorem alloc_below (w : World) (o : Obj) : Below w.heap.size w (w.alloc o) := by go_grown

theorem Tryz.info4b : (Tryz.prog.info? 4).map (fun i => (i.zero, i.size, i.bytes)) = some (some (.bool false), 1, 1) := by kernel_rfl

theorem makeB (n : Nat) (hn : n ≤ 1048576) (w : World) : (Instr.makeSlice 25 (.int .i64 n) (.int .i64 n)).run Tryz.prog w = .ok (.slice (some ⟨w.heap.size, 0, none⟩) n n) (w.alloc (.cells ((List.replicate n false).map Value.bool).toArray 4)) := by
  obtain ⟨i0, hi, hz0, hz1, hz2⟩ := info_parts Tryz.info4b
  have := run_make (P := Tryz.prog) w 25 4 i0 (.bool false) Tryz.underlying25 hi hz0 .i64 .i64 n n (by omega) (Int.le_refl _) (by rw [hz2]; omega) (by omega)
  rw [this, hz1]
  have e : madeCells #[Value.bool false] n = ((List.replicate n false).map Value.bool).toArray := by
    apply Array.toList_inj.1
    rw [toList_madeCells_one]
    simp
  rw [← e]
  simp [Value.cells]

theorem makeC (n : Nat) (hn : n ≤ 1048576) (w : World) : ∃ cs : Array Value, cs.size = n ∧ (Instr.makeSlice 22 (.int .i64 0) (.int .i64 n)).run Tryz.prog w = .ok (.slice (some ⟨w.heap.size, 0, none⟩) 0 n) (w.alloc (.cells cs 42)) := by
  obtain ⟨i0, hi, hz0, hz1, hz2⟩ := info_parts Tryz.infoG
  have := run_make (P := Tryz.prog) w 22 42 i0 (.slice none 0 0) Tryz.underlying22 hi hz0 .i64 .i64 0 n (by omega) (by omega) (by rw [hz2]; omega) (by omega)
  exact ⟨_, by rw [hz1]; simp [size_madeCells], this⟩

section
variable {c : SC} {w0 w w' : World} {g g' : G} {s s' : SS} {m m' : MV}

def owB (c : SC) (tb cb : Nat) (j : Nat) : Nat := if odB c.ko (.slice none 0 0) j then 2 else if j = c.SB then 6 else if j = tb then 7 else if j = cb then 4 else 1

/-- All of it is there. -/
theorem Sm.begin {n tb cb fst : Nat} {all : Bool} {ca : Array Value} (b0 : Below w.heap.size w w') (ht : Trl c.k w' [] 0 noV) (hs : St c.kw w' g0) (ho : Od.Ord c.ko w' (Od.zeros n) (Od.nones n) (.slice none 0 0)) (hk1 : c.k.n = n) (hk2 : c.kw.n = n) (hk3 : c.ko.n = n) (hB1 : w.heap.size ≤ c.k.B) (hB2 : c.kw.B = w.heap.size) (hB3 : w.heap.size ≤ c.ko.B)
    (htb : w'.heap[tb]? = some (.cells ((List.replicate n false).map Value.bool).toArray 4 (0, 0))) (hcb : w'.heap[cb]? = some (.cells ca 42 (0, 0))) (hca : ca.size = c.fst) (hfl : c.fst ≤ 1048576) (hcbl : w.heap.size ≤ cb) (htbl : w.heap.size ≤ tb) (hsbl : w.heap.size ≤ c.SB)
    (hsb : w'.heap[c.SB]? = some (.cells #[.pointer (some ⟨c.k.OB, 0, none⟩), .pointer (some ⟨c.kw.OB, 0, none⟩), .pointer (some ⟨c.ko.OB, 0, none⟩), .slice (some ⟨cb, 0, none⟩) 0 c.fst, .int .i64 c.fst, .slice none 0 0, .slice none 0 0, .bool c.all, .int .i64 1000, .slice none 0 0, .slice (some ⟨tb, 0, none⟩) n n, .int .i64 131072, .int .i64 0, .int .i64 0, .int .i64 0] 61 (0, 0))) :
    ∃ m, Sm c w g0 (s0F n) m w' := by
  have W := Wa.new ht hs (by omega) (by omega)
  have fty : ∀ j, Foot c.k c.kw g0 noV [] j → ∃ T, Typ w' j T ∧ (T = 157 ∨ T = 78 ∨ T = 84 ∨ T = 82 ∨ T = 144) := fun j hj => by
    rcases hj with hj | hj | ⟨i, h1, _⟩ | ⟨h0, _⟩
    · obtain ⟨F, S, r, _⟩ := ht
      rcases hj with rfl | rfl | e | e
      · obtain ⟨cc, h1, _⟩ := r.fc
        exact ⟨157, ⟨_, _, h1⟩, by simp⟩
      · exact ⟨78, ⟨_, _, r.cl⟩, by simp⟩
      · simp [noV, Value.ownBlock] at e
      · simp [noV, Value.ownBlock] at e
    · rcases hj with rfl | rfl | rfl | ⟨i, h1, _⟩ | ⟨q, _, e⟩ | e
      · exact ⟨84, ⟨_, _, hs.c.ob⟩, by simp⟩
      · obtain ⟨cc, h1, _⟩ := hs.c.wb
        exact ⟨82, ⟨_, _, h1⟩, by simp⟩
      · obtain ⟨cc, h1, _⟩ := hs.c.fb
        exact ⟨144, ⟨_, _, h1⟩, by simp⟩
      · simp [g0] at h1
      · simp [g0, Value.ownBlock] at e
      · simp [g0] at e
    · simp [g0] at h1
    · simp at h0
  have oty : ∀ j, Od.Mine c.ko (.slice none 0 0) j → ∃ T, Typ w' j T ∧ (T = 3 ∨ T = 86) := fun j hj => by
    obtain ⟨hs', ⟨P, r, p⟩, _⟩ := ho
    rcases hj with rfl | rfl | rfl | e
    · exact ⟨3, ⟨_, _, r.ac⟩, by simp⟩
    · exact ⟨3, ⟨_, _, r.pl⟩, by simp⟩
    · exact ⟨86, ⟨_, _, r.cl⟩, by simp⟩
    · simp [Value.ownBlock] at e
  have hsbt : Typ w' c.SB 61 := ⟨_, _, hsb⟩
  have htbt : Typ w' tb 4 := ⟨_, _, htb⟩
  have hcbt : Typ w' cb 42 := ⟨_, _, hcb⟩
  have od2 : ∀ j, Od.Mine c.ko (.slice none 0 0) j → owB c tb cb j = 2 := fun j hj => by unfold owB; rw [if_pos (odB_iff.2 hj)]
  have nod : ∀ j T, Typ w' j T → T ≠ 3 → T ≠ 86 → odB c.ko (.slice none 0 0) j = false := fun j T t h1 h2 => by
    cases e : odB c.ko (.slice none 0 0) j
    · rfl
    · obtain ⟨T', t', h3⟩ := oty j (odB_iff.1 e)
      have q := t.one t'
      rcases h3 with rfl | rfl
      · exact absurd q h1
      · exact absurd q h2
  have o6 : owB c tb cb c.SB = 6 := by unfold owB; rw [nod _ 61 hsbt (by decide) (by decide)]; simp
  have o7 : owB c tb cb tb = 7 := by
    unfold owB; rw [nod _ 4 htbt (by decide) (by decide), if_neg (by decide), if_neg (fun e => by rw [e] at htbt; have := htbt.one hsbt; cases this), if_pos rfl]
  have o4 : owB c tb cb cb = 4 := by
    unfold owB; rw [nod _ 42 hcbt (by decide) (by decide), if_neg (by decide), if_neg (fun e => by rw [e] at hcbt; have := hcbt.one hsbt; cases this), if_neg (fun e => by rw [e] at hcbt; have := hcbt.one htbt; cases this), if_pos rfl]
  have low : ∀ j, j < w.heap.size → owB c tb cb j = 1 := fun j hj => by
    have hno : odB c.ko (.slice none 0 0) j = false := by
      cases e : odB c.ko (.slice none 0 0) j
      · rfl
      · have := (ho.mine_lt (odB_iff.1 e)).1; omega
    unfold owB; rw [hno, if_neg (by decide), if_neg (by omega), if_neg (by omega), if_neg (by omega)]
  have ft1 : ∀ j, Foot c.k c.kw g0 noV [] j → owB c tb cb j = 1 := fun j hj => by
    obtain ⟨T, t, h⟩ := fty j hj
    have hT : T ≠ 3 ∧ T ≠ 86 ∧ T ≠ 61 ∧ T ≠ 4 ∧ T ≠ 42 := by rcases h with rfl | rfl | rfl | rfl | rfl <;> decide
    unfold owB
    rw [nod j T t hT.1 hT.2.1, if_neg (by decide), if_neg (fun e => by rw [e] at t; exact hT.2.2.1 (t.one hsbt)), if_neg (fun e => by rw [e] at t; exact hT.2.2.2.1 (t.one htbt)), if_neg (fun e => by rw [e] at t; exact hT.2.2.2.2 (t.one hcbt))]
  refine ⟨⟨noV, .slice none 0 0, .slice (some ⟨cb, 0, none⟩) 0 c.fst, .slice none 0 0, .slice none 0 0, .slice none 0 0, tb, owB c tb cb⟩, W, ho, ?_, ⟨[], ⟨rfl, .inr ⟨cb, c.fst, ca, rfl, hcbl, hcb, Nat.zero_le _, by unfold maxLen; omega, by rw [hca]; exact (Nat.mul_one _).symm, rfl⟩⟩, fun j e => by simp [Value.ownBlock] at e; subst e; exact o4, ⟨rfl, fun j hj => by simp at hj⟩, Nwr.nil _ _⟩,
    ⟨[], World.ownsRow_nil _ _ _ _, fun j e => by simp [Value.ownBlock] at e, ⟨rfl, fun j hj => by simp at hj⟩, Nwr.nil _ _⟩, ⟨World.ownsRow_nil _ _ _ _, fun j e => by simp [Value.ownBlock] at e⟩, ⟨World.ownsRow_nil _ _ _ _, fun j e => by simp [Value.ownBlock] at e⟩, ⟨htb, by simp [s0F]; omega⟩, b0, hB2, by omega, low, ft1, od2, o6, o7, fun j hj h1 => ?_, fun j hj => ?_, fun j hj => ?_⟩
  · rw [hsb]; simp only [sbc, s0F, hk2]; rfl
  · change owB c tb cb j ≠ 1 at h1
    unfold owB at h1
    cases e : odB c.ko (.slice none 0 0) j
    · rw [e, if_neg (by decide)] at h1
      by_cases e1 : j = c.SB
      · subst e1; exact ⟨61, hsbt, by simp [Wt]⟩
      · rw [if_neg e1] at h1
        by_cases e2 : j = tb
        · subst e2; exact ⟨4, htbt, by simp [Wt]⟩
        · rw [if_neg e2] at h1
          by_cases e3 : j = cb
          · subst e3; exact ⟨42, hcbt, by simp [Wt]⟩
          · rw [if_neg e3] at h1; exact absurd rfl h1
    · exact ho.typ (odB_iff.1 e)
  · change owB c tb cb j = 6 at hj
    unfold owB at hj
    split at hj
    · omega
    · split at hj
      · assumption
      · split at hj
        · omega
        · split at hj <;> omega
  · change owB c tb cb j = 7 at hj
    unfold owB at hj
    split at hj
    · omega
    · split at hj
      · omega
      · split at hj
        · assumption
        · split at hj <;> omega
end
end Go.Proofs.YtimfjoinjfecjaaGreat
