/-
  Learn: what a conflict teaches.
-/
import Derived.Test.YtikdmgemhfmipaaGreatAR
import Derived.Sort.OwnSortedInts
import Derived.Deep.WholeRow
namespace Go.Proofs.YtikdmgemhfmipaaGreat
open Go.RowKit Go.Sort
set_option linter.unusedVariables false

section
variable {k : SK} {w0 w w1 w' : World} {kt : K} {L : List E} {lev : Nat} {p : V} {cls : List (List Int)} {s s' : PS} {v v' : SV} {n : Nat}

def riseI (l : List Int) : List Int := l.mergeSort fun x y => decide (x ≤ y)

/-- The variables that were met are sorted. -/
theorem sort_met {B : Nat} {x : Value} {xs : List Int} (own : OwnL w B x xs) (hl : xs.length ≤ 100000) :
    Calls Tryz.prog 37 #[x] w fun e w' => e = .returned (.tuple #[]) ∧ ∃ go, Hid (w.grownBy w' go) ∧ Hid (∀ j, go = some j → x.ownBlock = some j) ∧ Hid (OwnL w' B x (riseI xs)) := by
  have hlen : (riseI xs).length = xs.length := by unfold riseI; simp [List.length_mergeSort]
  rcases own.2 with ⟨rfl, h2⟩ | ⟨g, cap, cur, rfl, hb, hg, h3, h4, h5, h6⟩
  · have e0 : xs = [] := List.eq_nil_of_length_eq_zero h2
    subst e0
    refine (Tryz.slices_Sort_int_none none 0 w).mono ?_
    rintro e w' ⟨rfl, rfl⟩
    exact ⟨rfl, none, ⟨rfl, rfl, rfl, Nat.le_refl _, fun _ _ _ => rfl⟩, fun j e => (by cases e), hid (by simpa [riseI] using own)⟩
  · have hH : Holds (Value.int .i64) w g 0 xs.toArray := holds_of_blockI hg (by rw [Nat.mul_one] at h6; exact h6)
    refine (Tryz.slices_Sort_int g 0 cap xs w hH (blk_lt hg) (by omega)).mono ?_
    rintro e w' ⟨rfl, q, os, rfl⟩
    refine ⟨rfl, some g, grownBy_sortedI _, fun j e => by cases e; rfl, hid ?_⟩
    have := ownsRow_sortedI (w := w) (n := q) (os := os) (ss := xs) (ts := riseI xs) hlen hb hg h3 h4 h5
    unfold OwnL
    rw [hlen]
    exact this

theorem backLevel_one (x : Addr) (ao : Option Addr) (m c : Nat) (hm : (m : Int) < 2) : Calls Tryz.prog 38 #[.pointer (some x), .slice ao m c] w fun e w' => e = .returned (.int .i64 0) ∧ w' = w := by
  go_enter Tryz.func38, Tryz.ntmps38
  go_wp2
  go_ret
  exact ⟨rfl, rfl⟩

theorem backLevel_more (h : Lv k kt L lev p w) (g c m y : Nat) (hm : ¬ (m : Int) < 2) (hm1 : (1 : Int) < m) (hy : (y : Int) ≤ 9223372036854775807) (hc : w.cell? ⟨g, 1, none⟩ = some (.int .i64 y)) {ll : Int} (hl : levelF L ((y / 2 : Nat) : Int) = ll) :
    Calls Tryz.prog 38 #[.pointer (some ⟨k.SB, 0, none⟩), .slice (some ⟨g, 0, none⟩) m c] w fun e w' => e = .returned (.int .i64 ll) ∧ Hid (Gr w w') := by
  have HL := hid h
  have HLL := hid hl
  clear h hl
  go_enter Tryz.func38, Tryz.ntmps38
  go_wp2_with (go_at_call 58; with_reducible (refine (levelOf_is HL.out _ hy HLL.out).mono ?_); rintro e w2 ⟨rfl, b2⟩)
  go_ret
  exact ⟨rfl, b2⟩

/-! ### The beginning -/
def z3 (z : Array Value) (a b c : Value) : Array Value := ((z.setIfInBounds 0 a).setIfInBounds 1 b).setIfInBounds 2 c

theorem z71_size : Tryz.zeroCells71.size = 262 := by kernel_rfl
theorem z71_one : Tryz.zeroCells71.all (·.oneCell') = true := by kernel_rfl
theorem z71_info : (Tryz.prog.info? 71).map (·.size) = some 262 := by kernel_rfl

theorem all_set {c : Array Value} {i : Nat} {x : Value} (h : c.all (·.oneCell') = true) (hx : x.oneCell' = true) : (c.setIfInBounds i x).all (·.oneCell') = true := by
  rw [Array.all_eq_true] at h ⊢
  intro j hj
  have hj' : j < c.size := by simpa using hj
  rw [Array.getElem_setIfInBounds]
  split
  · exact hx
  · exact h j hj'

theorem store71 (w : World) (a b c : Value) (ha : a.oneCell' = true) (hb : b.oneCell' = true) (hc : c.oneCell' = true) :
    (storeCells ⟨w.heap.size, 0, none⟩ (((Tryz.zeroCells71.toList.set 0 a).set 1 b).set 2 c)).run Tryz.prog (w.alloc (.cells Tryz.zeroCells71 71)) = .ok () (w.alloc (.cells (z3 Tryz.zeroCells71 a b c) 71)) := by
  have := run_storeCells_new (P := Tryz.prog) w 71 Tryz.zeroCells71 (z3 Tryz.zeroCells71 a b c) (by rw [z71_info]; simp [z3]) (by simp [z3]) (all_set (all_set (all_set z71_one ha) hb) hc)
  simpa only [z3, Array.toList_setIfInBounds] using this

theorem z71_at (a b c : Value) : (z3 Tryz.zeroCells71 a b c)[0]? = some a ∧ (z3 Tryz.zeroCells71 a b c)[1]? = some b ∧ (z3 Tryz.zeroCells71 a b c)[2]? = some c ∧ (z3 Tryz.zeroCells71 a b c)[3]? = some (.pointer none) ∧ (z3 Tryz.zeroCells71 a b c)[259]? = some (.slice none 0 0) ∧ (z3 Tryz.zeroCells71 a b c)[260]? = some (.int .i64 0) ∧ (z3 Tryz.zeroCells71 a b c)[261]? = some (.slice none 0 0) := by
  have h0 : Tryz.zeroCells71[0]? = some (.pointer none) := by kernel_rfl
  have h1 : Tryz.zeroCells71[1]? = some (.slice none 0 0) := by kernel_rfl
  have h2 : Tryz.zeroCells71[2]? = some (.int .i64 0) := by kernel_rfl
  have h3 : Tryz.zeroCells71[3]? = some (.pointer none) := by kernel_rfl
  have h4 : Tryz.zeroCells71[259]? = some (.slice none 0 0) := by kernel_rfl
  have h5 : Tryz.zeroCells71[260]? = some (.int .i64 0) := by kernel_rfl
  have h6 : Tryz.zeroCells71[261]? = some (.slice none 0 0) := by kernel_rfl
  unfold z3
  refine ⟨?_, ?_, ?_, ?_, ?_, ?_, ?_⟩
  · rw [set_ne _ (by decide), set_ne _ (by decide), set_eq _ h0]
  · rw [set_ne _ (by decide)]; exact set_eq _ ((set_ne _ (by decide)).trans h1)
  · exact set_eq _ ((set_ne _ (by decide)).trans ((set_ne _ (by decide)).trans h2))
  · rw [set_ne _ (by decide), set_ne _ (by decide), set_ne _ (by decide), h3]
  · rw [set_ne _ (by decide), set_ne _ (by decide), set_ne _ (by decide), h4]
  · rw [set_ne _ (by decide), set_ne _ (by decide), set_ne _ (by decide), h5]
  · rw [set_ne _ (by decide), set_ne _ (by decide), set_ne _ (by decide), h6]

def v00 : SV := ⟨.slice none 0 0, .slice none 0 0, none⟩
def kOf (w : World) (kt : K) (la : Option Addr) (ln cap lev : Nat) : SK := ⟨w.heap.size, w.heap.size, .pointer (some ⟨kt.OB, 0, none⟩), .slice la ln cap, lev⟩

theorem start_is (t : Trl kt w L lev p) {la : Option Addr} {ln cap : Nat} (gr : U.Grid w la ln cap cls) (hn : kt.n ≤ 4096) :
    Cm (kOf w kt la ln cap lev) w kt L lev p cls ∧ Rn (kOf w kt la ln cap lev) w kt.n (w.alloc (.cells (z3 Tryz.zeroCells71 (.pointer (some ⟨kt.OB, 0, none⟩)) (.slice la ln cap) (.int .i64 lev)) 71)) zeroP v00 := by
  refine ⟨⟨rfl, t, rfl, rfl, ⟨la, ln, cap, rfl, gr⟩, hn⟩, ⟨⟨_, new_same w _, ?_⟩, Nat.le_refl _, fun i _ => rfl, fun b e => (by cases e), World.ownsRow_nil _ _ _ _, World.ownsRow_nil _ _ _ _, fun j e => (by simp [v00, Value.ownBlock] at e)⟩, by go_grown, Wf.zero _, fun i => Nat.zero_le _⟩
  exact z71_at _ _ _

set_option maxRecDepth 100000 in
set_option maxHeartbeats 2000000 in
theorem learn_zero (t : Trl kt w L 0 p) (la : Option Addr) (ln cap : Nat) (x : Int) :
    Calls Tryz.prog 14 #[.pointer (some ⟨kt.OB, 0, none⟩), .slice la ln cap, .int .i64 x] w fun e w' => e = .returned (.tuple #[.slice none 0 0, .int .i64 0, .slice none 0 0, .bool false]) ∧ Below w.heap.size w w' := by
  have HT := hid t
  have hst := store71 w (.pointer (some ⟨kt.OB, 0, none⟩)) (.slice la ln cap) (.int .i64 0) rfl rfl rfl
  obtain ⟨Z, hZ⟩ : ∃ Z, Z = z3 Tryz.zeroCells71 (.pointer (some ⟨kt.OB, 0, none⟩)) (.slice la ln cap) (.int .i64 0) := ⟨_, rfl⟩
  rw [← hZ] at hst
  have h2 : Z[2]? = some (.int .i64 0) := by rw [hZ]; exact (z71_at _ _ _).2.2.1
  clear t hZ
  go_enter Tryz.func14, Tryz.ntmps14
  go_wp2_with (go_at_call 11; with_reducible (refine (levels_is HT.out).mono ?_); rintro e w ⟨rfl, rfl⟩)
  go_returns
  exact ⟨rfl, by go_grown⟩
end

end Go.Proofs.YtikdmgemhfmipaaGreat
