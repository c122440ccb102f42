/-
  New: a watch with no clauses.
  slices.Clone, slices.Clip: a list of literals of one's own.
  A clause more: what becomes of the watch.
  A clause more, between its steps.
-/
import Derived.Test.YtimfjoinjfecjaaGreatG24

namespace Go.Proofs.YtimfjoinjfecjaaGreat
open Go.RowKit Go.Maps
set_option linter.unusedVariables false

theorem Tryz.info82 : (Tryz.prog.info? 82).map (fun i => (i.zero, i.size, i.bytes)) = some (some (.slice none 0 0), 1, 24) := by kernel_rfl
theorem Tryz.info144 : (Tryz.prog.info? 144).map (fun i => (i.zero, i.size, i.bytes)) = some (some (.agg #[.int .i64 0, .slice none 0 0]), 2, 32) := by kernel_rfl

def zrows (m : Nat) : Array Value := madeCells #[.slice none 0 0] m
def zfact (m : Nat) : Array Value := madeCells #[.int .i64 0, .slice none 0 0] (m * 2)

theorem make64 (n : Nat) (hn : n ≤ 2097152) (w : World) : (Instr.makeSlice 79 (.int .i64 n) (.int .i64 n)).run Tryz.prog w = .ok (.slice (some ⟨w.heap.size, 0, none⟩) n n) (w.alloc (.cells (zrows n) 82)) := by
  obtain ⟨i0, hi, hz0, hz1, hz2⟩ := info_parts Tryz.info82
  have := run_make (P := Tryz.prog) w 79 82 i0 (.slice none 0 0) Tryz.underlying79 hi hz0 .i64 .i64 n n (by omega) (Int.le_refl _) (by rw [hz2]; omega) (by omega)
  rw [this, hz1]
  simp [Value.cells, zrows]

theorem make65 (n : Nat) (hn : n ≤ 1048576) (w : World) : (Instr.makeSlice 80 (.int .i64 n) (.int .i64 n)).run Tryz.prog w = .ok (.slice (some ⟨w.heap.size, 0, none⟩) n n) (w.alloc (.cells (zfact n) 144)) := by
  obtain ⟨i0, hi, hz0, hz1, hz2⟩ := info_parts Tryz.info144
  have := run_make (P := Tryz.prog) w 80 144 i0 (.agg #[.int .i64 0, .slice none 0 0]) Tryz.underlying80 hi hz0 .i64 .i64 n n (by omega) (Int.le_refl _) (by rw [hz2]; omega) (by omega)
  rw [this, hz1]
  simp [Value.cells, zfact]

theorem zrows_at {m j : Nat} (h : j < m) : (zrows m)[j]? = some (.slice none 0 0) := by
  simp only [zrows, madeCells, Array.getElem?_map, Array.getElem?_range, if_pos h]
  simp [Nat.mod_one]

theorem zfact_at {m j : Nat} (h : j < m) : (zfact m)[j * 2]? = some (.int .i64 0) ∧ (zfact m)[j * 2 + 1]? = some (.slice none 0 0) := by
  simp only [zfact, madeCells, Array.getElem?_map, Array.getElem?_range, if_pos (show j * 2 < m * 2 by omega), if_pos (show j * 2 + 1 < m * 2 by omega)]
  have e1 : j * 2 % 2 = 0 := by omega
  have e2 : (j * 2 + 1) % 2 = 1 := by omega
  simp [e1, e2]

/-- A watch that has nothing. -/
def g0 : G := ⟨0, fun _ => 0, fun _ => [], fun _ => .slice none 0 0, fun _ => 0, fun _ => 0, fun _ => 0, fun _ => false, fun _ => [], fun _ => .slice none 0 0, fun _ => 0, none, .slice none 0 0, 0, 0⟩

theorem St.zero {k : WK} {w : World} (hn : k.n ≤ 1048576) (ho : w.heap[k.OB]? = some (.cells #[.map none, .int .i64 0, .slice (some ⟨k.WB, 0, none⟩) (2 * k.n) (2 * k.n), .slice (some ⟨k.FB, 0, none⟩) k.n k.n, .slice none 0 0, .slice none 0 0, .int .i64 0, .int .i64 0] 84 (0, 0)))
    (hw : w.heap[k.WB]? = some (.cells (zrows (2 * k.n)) 82 (0, 0))) (hf : w.heap[k.FB]? = some (.cells (zfact k.n) 144 (0, 0))) (hlo : k.B ≤ k.OB ∧ k.B ≤ k.WB ∧ k.B ≤ k.FB) : St k w g0 := by
  refine ⟨⟨ho, ⟨_, hw, by simp [zrows, size_madeCells], fun i hi => zrows_at hi⟩, ⟨_, hf, by simp [zfact, size_madeCells], fun v hv => zfact_at hv⟩, hlo⟩, hn, ?_, ?_, fun s _ => PRow.nil w _, ?_, ?_, ?_, .inl ⟨rfl, rfl⟩, ?_, ?_, ?_⟩
  · intro i hi; simp [g0] at hi
  · intro i j hi; simp [g0] at hi
  · intro s _ i hi; simp [g0] at hi
  · intro s t _ _ _ j hj; simp [g0, Value.ownBlock] at hj
  · intro i hi; simp [g0] at hi
  · intro i hi; simp [g0] at hi
  · intro s _ j hj; simp [g0, Value.ownBlock] at hj
  · intro mb h; simp [g0] at h

def WNewEnd (n : Int) (w : World) (OB : Nat) (w' : World) : Prop := ∀ B, B ≤ w.heap.size → ∃ k : WK, k.OB = OB ∧ k.B = B ∧ k.n = cntF n ∧ St k w' g0 ∧ Below w.heap.size w w'

theorem wnew_end {n : Int} {m OB WB FB : Nat} {w w' : World} (hm : cntF n = m) (hle : m ≤ 1048576) (b : Below w.heap.size w w')
    (ho : w'.heap[OB]? = some (.cells #[.map none, .int .i64 0, .slice (some ⟨WB, 0, none⟩) (2 * m) (2 * m), .slice (some ⟨FB, 0, none⟩) m m, .slice none 0 0, .slice none 0 0, .int .i64 0, .int .i64 0] 84 (0, 0)))
    (hw : w'.heap[WB]? = some (.cells (zrows (2 * m)) 82 (0, 0))) (hf : w'.heap[FB]? = some (.cells (zfact m) 144 (0, 0))) (hlo : w.heap.size ≤ OB ∧ w.heap.size ≤ WB ∧ w.heap.size ≤ FB) : WNewEnd n w OB w' :=
  fun B hB => ⟨⟨m, OB, WB, FB, B⟩, rfl, rfl, hm.symm, St.zero hle ho hw hf ⟨Nat.le_trans hB hlo.1, Nat.le_trans hB hlo.2.1, Nat.le_trans hB hlo.2.2⟩, b⟩

theorem three (w : World) (o1 o2 o3 : Obj) : (((w.alloc o1).alloc o2).alloc o3).drew.heap[w.heap.size]? = some o1 ∧ (((w.alloc o1).alloc o2).alloc o3).drew.heap[w.heap.size + 1]? = some o2 ∧ (((w.alloc o1).alloc o2).alloc o3).drew.heap[w.heap.size + 1 + 1]? = some o3 := by
  have e1 : (w.alloc o1).heap.size = w.heap.size + 1 := by simp
  have e2 : ((w.alloc o1).alloc o2).heap.size = w.heap.size + 1 + 1 := by simp
  refine ⟨?_, ?_, ?_⟩
  · show (((w.alloc o1).alloc o2).alloc o3).heap[w.heap.size]? = some o1
    rw [(grown_new ((w.alloc o1).alloc o2) o3 none).block _ (by rw [e2]; omega) (by simp), (grown_new (w.alloc o1) o2 none).block _ (by rw [e1]; omega) (by simp)]
    exact new_same w _
  · show (((w.alloc o1).alloc o2).alloc o3).heap[w.heap.size + 1]? = some o2
    rw [(grown_new ((w.alloc o1).alloc o2) o3 none).block _ (by rw [e2]; omega) (by simp)]
    have := new_same (w.alloc o1) o2
    rw [e1] at this; exact this
  · show (((w.alloc o1).alloc o2).alloc o3).heap[w.heap.size + 1 + 1]? = some o3
    have := new_same ((w.alloc o1).alloc o2) o3
    rw [e2] at this; exact this

theorem wnew_two {n : Int} {m m2 : Nat} (w : World) (hm : cntF n = m) (h2 : m2 = 2 * m) (hle : m ≤ 1048576) :
    (∃ OB, .returned (.pointer (some ⟨w.heap.size + 1 + 1, 0, none⟩)) = Ending.returned (.pointer (some ⟨OB, 0, none⟩)) ∧ WNewEnd n w OB (((w.alloc (.cells (zrows m2) 82)).alloc (.cells (zfact m) 144)).alloc (.cells #[.map none, .int .i64 0, .slice (some ⟨w.heap.size, 0, none⟩) m2 m2, .slice (some ⟨w.heap.size + 1, 0, none⟩) m m, .slice none 0 0, .slice none 0 0, .int .i64 0, .int .i64 0] 84)).drew) ∧
    (∃ OB, .returned (.pointer (some ⟨w.heap.size + 1 + 1, 0, none⟩)) = Ending.returned (.pointer (some ⟨OB, 0, none⟩)) ∧ WNewEnd n w OB (((w.alloc (.cells (zfact m) 144)).alloc (.cells (zrows m2) 82)).alloc (.cells #[.map none, .int .i64 0, .slice (some ⟨w.heap.size + 1, 0, none⟩) m2 m2, .slice (some ⟨w.heap.size, 0, none⟩) m m, .slice none 0 0, .slice none 0 0, .int .i64 0, .int .i64 0] 84)).drew) := by
  subst h2
  refine ⟨⟨_, rfl, ?_⟩, ⟨_, rfl, ?_⟩⟩
  · obtain ⟨a1, a2, a3⟩ := three w (.cells (zrows (2 * m)) 82) (.cells (zfact m) 144) (.cells #[.map none, .int .i64 0, .slice (some ⟨w.heap.size, 0, none⟩) (2 * m) (2 * m), .slice (some ⟨w.heap.size + 1, 0, none⟩) m m, .slice none 0 0, .slice none 0 0, .int .i64 0, .int .i64 0] 84)
    exact wnew_end hm hle (by go_grown) a3 a1 a2 (by omega)
  · obtain ⟨a1, a2, a3⟩ := three w (.cells (zfact m) 144) (.cells (zrows (2 * m)) 82) (.cells #[.map none, .int .i64 0, .slice (some ⟨w.heap.size + 1, 0, none⟩) (2 * m) (2 * m), .slice (some ⟨w.heap.size, 0, none⟩) m m, .slice none 0 0, .slice none 0 0, .int .i64 0, .int .i64 0] 84)
    exact wnew_end hm hle (by go_grown) a3 a2 a1 (by omega)

set_option maxHeartbeats 1000000 in
theorem wnew_any (n : Int) (w : World) : Calls Tryz.prog 26 #[.int .i64 n] w fun e w' => ∃ OB, e = .returned (.pointer (some ⟨OB, 0, none⟩)) ∧ WNewEnd n w OB w' := by
  by_cases h0 : n < 0
  · have HC : Hid (cntF n = 0) := hid (by simp [cntF, h0])
    have hmk := make65 0 (by omega)
    have hmk2 := make64 0 (by omega)
    simp only [Int.natCast_zero] at hmk hmk2
    go_enter Tryz.func26, Tryz.ntmps26
    go_wp2
    go_region
    all_goals go_wp2
    all_goals go_ret
    · exact (wnew_two w HC.out rfl (by omega)).1
    · exact (wnew_two w HC.out rfl (by omega)).2
  · by_cases h1 : 1048576 < n
    · have HC : Hid (cntF n = 0) := hid (by simp [cntF, h1])
      have hmk := make65 0 (by omega)
      have hmk2 := make64 0 (by omega)
      simp only [Int.natCast_zero] at hmk hmk2
      go_enter Tryz.func26, Tryz.ntmps26
      go_wp2
      go_region
      all_goals go_wp2
      all_goals go_ret
      · exact (wnew_two w HC.out rfl (by omega)).1
      · exact (wnew_two w HC.out rfl (by omega)).2
    · obtain ⟨m, rfl⟩ : ∃ m : Nat, n = m := ⟨n.toNat, by omega⟩
      have HC : Hid (cntF m = m) := hid (by simp only [cntF]; rw [if_neg (by omega)]; omega)
      have h1' : m ≤ 1048576 := by omega
      obtain ⟨m2, hm2⟩ : ∃ m2 : Nat, m2 = 2 * m := ⟨_, rfl⟩
      have hmk := make65 m h1'
      have hmk2 := make64 m2 (by omega)
      have hmul : (2 * (m : Int)) = (m2 : Int) := by omega
      have h1d : decide ((1048576 : Int) < m) = false := by simp; omega
      have HM := hid hm2
      have hb2 : (m2 : Int) ≤ 2097152 := by omega
      clear hm2
      go_enter Tryz.func26, Tryz.ntmps26
      go_wp2
      go_region
      all_goals go_wp2
      all_goals go_ret
      · exact (wnew_two w HC.out HM.out h1').1
      · exact (wnew_two w HC.out HM.out h1').2

theorem wnew_is (n : Int) (w : World) (B : Nat) (hB : B ≤ w.heap.size) : Calls Tryz.prog 26 #[.int .i64 n] w fun e w' => ∃ k : WK, e = .returned (.pointer (some ⟨k.OB, 0, none⟩)) ∧ Hid (St k w' g0) ∧ Hid (k.n = cntF n) ∧ Hid (k.B = B) ∧ Hid (Below w.heap.size w w') := by
  refine (wnew_any n w).mono fun e w' h => ?_
  obtain ⟨OB, rfl, h⟩ := h
  obtain ⟨k, rfl, h1, h2, h3, h4⟩ := h B hB
  exact ⟨k, rfl, h3, h2, h1, h4⟩

/-- A new watch beside a new trail. -/
theorem Wa.new {k : K} {kw : WK} {w : World} (t : Trl k w [] 0 noV) (s : St kw w g0) (hn : k.n = kw.n) (hb : kw.B ≤ k.B) : Wa k kw w g0 [] 0 noV [] := by
  refine ⟨⟨t, s, hn, hb, ?_⟩, ⟨?_, ?_, ?_, ?_, ?_, ?_, ?_⟩, Told.nil k _ w, ⟨none, 0, rfl⟩, by simp, by simp, ?_⟩
  · intro i hi; simp [g0] at hi
  · intro i hi; simp [g0] at hi
  · intro i hi; simp [g0] at hi
  · intro i hi; simp [g0] at hi
  · intro l hl i hi; simp [g0] at hi
  · intro l hl; simp [g0]
  · intro q x hx; simp at hx
  · intro i hi; simp [g0] at hi
  · intro q e he; simp at he

end Go.Proofs.YtimfjoinjfecjaaGreat

namespace Go.Proofs.YtimfjoinjfecjaaGreat
open Go.RowKit Go.Maps
set_option linter.unusedVariables false

/-- A list that lies in a block of its own. -/
def Cpy (w w' : World) (ao : Option Addr) (n c : Nat) (xs : List Int) : Prop := U.Row w' ao n c xs ∧ ((ao = none ∧ n = 0 ∧ c = 0) ∨ ∃ b, ao = some ⟨b, 0, none⟩ ∧ Typ w' b 3 ∧ w.heap.size ≤ b)

theorem own_empty (w : World) : U.Own (w.alloc (.cells #[] 3)) w.heap.size (.slice (some ⟨w.heap.size, 0, none⟩) 0 0) [] := by
  refine ⟨⟨by simp, .inr ⟨w.heap.size, 0, #[], rfl, Nat.le_refl _, new_same w _, by simp, by unfold maxLen; omega, by simp, by simp⟩⟩, fun x hx => by simp at hx⟩

theorem own_cl {w w' : World} {v : Value} {xs : List Int} (h : U.Own w' w.heap.size v xs) : ∃ ao c, v = .slice ao xs.length c ∧ Cpy w w' ao xs.length c xs := by
  obtain ⟨ao, c, e, r⟩ := h.row
  refine ⟨ao, c, e, r, ?_⟩
  have h2 := h.1.2
  rcases h2 with ⟨h1, h2⟩ | ⟨g, cap, cur, e2, h1, h2, _⟩
  · rw [e] at h1; simp only [Value.slice.injEq] at h1; exact .inl ⟨h1.1, h2, h1.2.2⟩
  · rw [e] at e2; cases e2; exact .inr ⟨g, rfl, ⟨_, _, h2⟩, h1⟩

theorem clone_is {w : World} {ao : Option Addr} {n c : Nat} {xs : List Int} (row : U.Row w ao n c xs) (hn : n ≤ 1000) :
    Calls Tryz.prog 71 #[.slice ao n c] w fun e w' => ∃ ao' c', e = .returned (.slice ao' n c') ∧ Hid (Cpy w w' ao' n c' xs) ∧ Hid (Below w.heap.size w w') := by
  cases ao with
  | none =>
    have hc := row.2.2.2.1 rfl
    have hnc := row.2.1
    obtain rfl : n = 0 := by omega
    subst hc
    have HR := hid row
    clear row
    have hq := Lib.run_eql_slice_nil (P := Tryz.prog) w 42 3 none 0 0 0 0 Tryz.underlying42
    go_enter Tryz.func71, Tryz.ntmps71
    go_wp2
    go_ret
    exact ⟨none, 0, rfl, ⟨HR.out, .inl ⟨rfl, rfl, rfl⟩⟩, Below.refl _ _⟩
  | some a =>
    have B1 : Below w.heap.size w (w.alloc (.cells #[] 3)) := by go_grown
    have HR : Hid (U.Row (w.alloc (.cells #[] 3)) (some a) n c xs) := hid (row.keep B1)
    have HO := hid (own_empty w)
    have HL := hid row.1
    have HB := hid B1
    clear row B1
    have hq := Lib.run_eql_slice_nil (P := Tryz.prog) w 42 3 (some a) n c 0 0 Tryz.underlying42
    go_enter Tryz.func71, Tryz.ntmps71
    go_wp2_with (at_builtin; refine U.append_ints rfl _ _ rfl w.heap.size _ [] xs rfl HO.out (some a) n c rfl HR.out (by simp; omega) (by simp) ?_; intro v' w' o b)
    go_ret
    obtain ⟨ao', c', rfl, h⟩ := own_cl o.out
    rw [List.nil_append, HL.out] at h
    have hl : ([] ++ xs).length = n := HL.out
    rw [hl]
    exact ⟨ao', c', rfl, h, HB.out.trans b.out⟩

theorem clip_is {w w0 : World} {ao : Option Addr} {n c : Nat} {xs : List Int} (h : Cpy w0 w ao n c xs) :
    Calls Tryz.prog 70 #[.slice ao n c] w fun e w' => e = .returned (.slice ao n n) ∧ w' = w := by
  obtain ⟨row, hh⟩ := h
  have hnc := row.2.1
  have hm := row.max
  have hm2 := row.2.2.1
  unfold maxLen at hm2
  rcases hh with ⟨rfl, rfl, rfl⟩ | ⟨b, rfl, _, _⟩
  · clear row
    go_enter Tryz.func70, Tryz.ntmps70
    go_wp2
    go_ret
    exact ⟨rfl, rfl⟩
  · clear row
    have hd : (n : Int) ≤ c := by omega
    go_enter Tryz.func70, Tryz.ntmps70
    go_wp2
    go_ret
    exact ⟨rfl, rfl⟩

theorem Cpy.full {w w' : World} {ao : Option Addr} {n c : Nat} {xs : List Int} (h : Cpy w w' ao n c xs) : Cpy w w' ao n n xs := by
  obtain ⟨r, h⟩ := h
  have h1 := r.2.1
  have h2 := r.2.2.1
  refine ⟨⟨r.1, Nat.le_refl _, by omega, fun e => by have := r.2.2.2.1 e; omega, r.2.2.2.2⟩, ?_⟩
  rcases h with ⟨a1, a2, a3⟩ | h
  · exact .inl ⟨a1, a2, by omega⟩
  · exact .inr h

theorem Cpy.lit {w w' : World} {ao : Option Addr} {n c : Nat} {xs : List Int} (h : Cpy w w' ao n c xs) : LitRow w' (.slice ao n c) xs ∧ ∀ j, (Value.slice ao n c).ownBlock = some j → 0 < xs.length → w.heap.size ≤ j := by
  obtain ⟨r, h⟩ := h
  refine ⟨⟨ao, n, c, rfl, r, fun h0 => ?_⟩, fun j hj h0 => ?_⟩
  · rcases h with ⟨_, h1, _⟩ | ⟨b, rfl, ht, _⟩
    · omega
    · exact ⟨b, 0, rfl, ht⟩
  · rcases h with ⟨rfl, h1, _⟩ | ⟨b, rfl, ht, hb⟩
    · simp [Value.ownBlock] at hj
    · simp [Value.ownBlock] at hj; omega

theorem Cpy.next {w w1 w' w2 : World} {ao : Option Addr} {n c : Nat} {xs : List Int} (h : Cpy w w' ao n c xs) (b : Below w'.heap.size w' w2) : Cpy w w2 ao n c xs := by
  obtain ⟨r, h⟩ := h
  refine ⟨r.keep b, h.elim .inl (fun ⟨q, e, ht, hb⟩ => .inr ⟨q, e, ht.same (b.block _ ht.lt), hb⟩)⟩

end Go.Proofs.YtimfjoinjfecjaaGreat

namespace Go.Proofs.YtimfjoinjfecjaaGreat
open Go.RowKit Go.Maps
set_option linter.unusedVariables false

def addG (g : G) (cn : Nat) (lv : Value) (xs : List Int) (mb : Nat) : G :=
  { g with nx := g.nx + 1, cb := up g.cb g.nx cn, lt := up g.lt g.nx xs, lv := up g.lv g.nx lv, a := up g.a g.nx (-1), b := up g.b g.nx (-1), fr := up g.fr g.nx 0, gn := up g.gn g.nx false, mp := some mb }

section
variable {k : WK} {w w' : World} {g : G} {cn mb : Nat} {lv : Value} {xs : List Int}

theorem live_iff {x : Int} : live g x = true ↔ 0 ≤ x ∧ x < g.nx ∧ g.gn x.toNat = false := by
  simp [live, and_assoc]

theorem live_add (x : Int) (hx : x ≠ g.nx) : live (addG g cn lv xs mb) x = live g x := by
  rw [Bool.eq_iff_iff, live_iff, live_iff]
  show 0 ≤ x ∧ x < ((g.nx + 1 : Nat) : Int) ∧ up g.gn g.nx false x.toNat = false ↔ _
  by_cases h : 0 ≤ x ∧ x < g.nx
  · rw [up_ne _ _ (by omega)]
    exact ⟨fun q => ⟨h.1, h.2, q.2.2⟩, fun q => ⟨h.1, by omega, q.2.2⟩⟩
  · exact ⟨fun q => absurd ⟨q.1, by omega⟩ h, fun q => absurd ⟨q.1, q.2.1⟩ h⟩

theorem live_new : live (addG g cn lv xs mb) g.nx = true := by
  rw [live_iff]
  refine ⟨by omega, ?_, up_same _ _ _⟩
  show (g.nx : Int) < ((g.nx + 1 : Nat) : Int)
  omega

theorem live_no : live g g.nx = false := by
  rw [Bool.eq_false_iff, ne_eq, live_iff]
  omega

theorem liveN_add : liveN (addG g cn lv xs mb) = liveN g + 1 := by
  simp only [liveN, addG]
  rw [List.range_succ, List.filter_append, List.length_append]
  have h1 : (List.range g.nx).filter (fun i => !up g.gn g.nx false i) = (List.range g.nx).filter (fun i => !g.gn i) := by
    apply List.filter_congr
    intro i hi
    rw [up_ne _ _ (by have := List.mem_range.1 hi; omega)]
  rw [h1]
  simp [up_same]

theorem MapAt.add {D : DataW (Option Addr)} (m : MapAt w g mb D) (h : w'.ownsMap Tryz.prog 3 ptrElem mb (g.nx + 1) (D.put (.int .i64 g.nx) (.held (some ⟨cn, 0, none⟩)))) :
    MapAt w' (addG g cn lv xs mb) mb (D.put (.int .i64 g.nx) (.held (some ⟨cn, 0, none⟩))) := by
  refine ⟨h, fun x => ?_, fun x => ?_, ?_⟩
  · by_cases e : x = g.nx
    · subst e
      rw [atKey_put_same m.own.isMap (by trivial), live_new]
      simp [addG, up_same]
    · rw [atKey_put_other (by simpa using e), m.val x, live_add x e]
      by_cases hl : live g x = true
      · have : x.toNat ≠ g.nx := by
          simp only [live, Bool.and_eq_true, decide_eq_true_eq] at hl
          omega
        simp only [addG, hl, if_true]
        rw [up_ne _ _ this]
      · rw [if_neg hl, if_neg hl]
  · by_cases e : x = g.nx
    · subst e
      rw [has_put_same m.own.isMap (by trivial), live_new]
    · rw [has_put_other (by simpa using e), m.has x, live_add x e]
  · rw [size_put (m.own.tidy law3), m.has, live_no, m.size, liveN_add]
    rfl

theorem Lst.add {D : DataW (Option Addr)} (l : Lst k w g) (gr : w.grownBy w' (some mb)) {es : Array MapEntry} {clock : Nat} (hmb : w.heap[mb]? = some (Obj.map es clock))
    (hc : w.heap[cn]? = some (.cells #[.int .i64 g.nx, lv, .int .i64 (-1), .int .i64 (-1), .int .i64 0, .bool false] 97 (0, 0))) (hf : ∀ i, i < g.nx → g.cb i ≠ cn) (hl : LitRow w lv xs) (hlo : k.B ≤ cn ∧ k.B ≤ mb)
    (hm : MapAt w' (addG g cn lv xs mb) mb D) : Lst k w' (addG g cn lv xs mb) := by
  have key : ∀ j T, Typ w j T → w'.heap[j]? = w.heap[j]? := fun j T ⟨c, f, t⟩ => gr.block j (blk_lt t) (fun e => by
    rw [Option.some.inj e, hmb] at t; cases t)
  refine ⟨l.hn, fun i hi => ?_, fun i j hi hj e => ?_, fun s hs => ?_, fun s hs i hi => ?_, l.ne, fun i hi hgi => ?_, .inr ⟨mb, D, rfl, hm⟩, fun i hi => ?_, l.lo.p, fun mb' e => by cases e; exact hlo.2⟩
  · change i < g.nx + 1 at hi
    by_cases e : i = g.nx
    · subst e
      simp only [addG, clc, up_same]
      rw [key _ 97 ⟨_, _, hc⟩, hc]
      rfl
    · have h := l.cl i (by omega)
      simp only [addG, clc, up_ne _ _ e]
      rw [key _ 97 ⟨_, _, h⟩, h, clc]
  · change i < g.nx + 1 at hi
    change j < g.nx + 1 at hj
    simp only [addG] at e
    by_cases e1 : i = g.nx <;> by_cases e2 : j = g.nx
    · omega
    · subst e1
      rw [up_same, up_ne _ _ e2] at e
      exact absurd e.symm (hf j (by omega))
    · subst e2
      rw [up_same, up_ne _ _ e1] at e
      exact absurd e (hf i (by omega))
    · rw [up_ne _ _ e1, up_ne _ _ e2] at e
      exact l.inj i j (by omega) (by omega) e
  · refine PRow.as (cb := g.cb) ((l.rw s hs).same (fun j c f e _ => key j 92 ⟨_, _, e⟩)) (fun i hi => ?_)
    exact up_ne _ _ (by have := l.sub s hs i hi; omega)
  · have := l.sub s hs i hi
    show i < g.nx + 1
    omega
  · change i < g.nx + 1 at hi
    simp only [addG] at hgi ⊢
    by_cases e : i = g.nx
    · subst e
      rw [up_same, up_same]
      exact hl.same (fun j _ _ t => key j 3 t)
    · rw [up_ne _ _ e, up_ne _ _ e]
      rw [up_ne _ _ e] at hgi
      exact (l.li i (by omega) hgi).same (fun j _ _ t => key j 3 t)
  · change i < g.nx + 1 at hi
    simp only [addG]
    by_cases e : i = g.nx
    · subst e; rw [up_same]; exact hlo.1
    · rw [up_ne _ _ e]; exact l.lo.c i (by omega)

theorem Inv.add {n : Nat} {H : List Int} {d : Nat} {X : Nat → Prop} (iv : Inv n g H (fun _ => d) X) (hx : ∀ x ∈ xs, 0 ≤ x ∧ x < 2 * n) (hs : ∀ s, s ≤ 3 * n → ∀ i ∈ g.P s, i < g.nx) : Inv n (addG g cn lv xs mb) H (fun _ => d) (fun i => X i ∨ i = g.nx) := by
  refine ⟨fun i hi hgi => ?_, fun i hi hgi => ?_, fun i hi hgi => ?_, fun l hl i hi hgi => ?_, iv.nd, iv.pl, fun i hi hgi => ?_⟩
  · change i < g.nx + 1 at hi
    simp only [addG] at hgi ⊢
    by_cases e : i = g.nx
    · subst e; rw [up_same]; exact hx
    · rw [up_ne _ _ e]; rw [up_ne _ _ e] at hgi; exact iv.rg i (by omega) hgi
  · change i < g.nx + 1 at hi
    simp only [addG] at hgi ⊢
    by_cases e : i = g.nx
    · subst e; rw [up_same, up_same]
      cases xs with
      | nil => exact .inr rfl
      | cons y ys => exact .inl (by simp)
    · rw [up_ne _ _ e, up_ne _ _ e]; rw [up_ne _ _ e] at hgi; exact iv.fr i (by omega) hgi
  · change i < g.nx + 1 at hi
    by_cases e : i = g.nx
    · subst e; exact .inl ⟨up_same _ _ _, up_same _ _ _⟩
    · have hgi' : g.gn i = false := by rw [← up_ne g.gn false e]; exact hgi
      have h := iv.wt i (by omega) hgi'
      unfold WtOk at h ⊢
      simp only [addG, up_ne _ _ e]
      exact h
  · have hin := hs l (by omega) i hi
    have e : i ≠ g.nx := by omega
    have hgi' : g.gn i = false := by rw [← up_ne g.gn false e]; exact hgi
    have h := iv.sd l hl i hi hgi'
    simp only [addG, up_ne _ _ e]
    exact h
  · change i < g.nx + 1 at hi
    by_cases e : i = g.nx
    · exact .inl (.inr e)
    · have hgi' : g.gn i = false := by rw [← up_ne g.gn false e]; exact hgi
      rcases iv.ok i (by omega) hgi' with h | h
      · exact .inl (.inl h)
      · refine .inr ?_
        exact h.as (up_ne _ _ e) (up_ne _ _ e) (up_ne _ _ e) (fun v hv => hv)

theorem Rs.add {L : List E} (h : Rs g L) : Rs (addG g cn lv xs mb) L := by
  intro q e he hr
  obtain ⟨c, h1, h2, h3, h4, h5⟩ := h q e he hr
  have hne : c ≠ g.nx := by omega
  refine ⟨c, h1, ?_, ?_, ?_⟩
  · show c < g.nx + 1; omega
  · simp only [addG]; rw [up_ne _ _ hne]; exact h3
  · simp only [addG]; rw [up_ne _ _ hne]; exact ⟨h4, h5⟩
end

/-- What Add has made. -/
structure AddD (n sz : Nat) (g g' : G) (xs : List Int) : Prop where
  nx : g'.nx = g.nx + 1
  lt : g'.lt = up g.lt g.nx xs
  gn : g'.gn = up g.gn g.nx false
  su : tot n g' = tot n g + 1
  rm : g'.rm = g.rm
  hv : g'.hv = g.hv
  lo : ∃ lv, g'.lv = up g.lv g.nx lv ∧ ∀ j, lv.ownBlock = some j → 0 < xs.length → sz ≤ j
  a : g'.a = up g.a g.nx (-1)
  b : g'.b = up g.b g.nx (-1)
  fr : g'.fr = up g.fr g.nx 0
  P : g'.P = up g.P (3 * n) (g.P (3 * n) ++ [g.nx])
  pl : g'.pl = g.pl
  dn : g'.dn = g.dn

end Go.Proofs.YtimfjoinjfecjaaGreat

namespace Go.Proofs.YtimfjoinjfecjaaGreat
open Go.RowKit Go.Maps
set_option linter.unusedVariables false

/-! ### The clause is there -/
/-- The clause is laid, and its number used; the map is one, and does not have it yet. -/
structure Mid (kw : WK) (w : World) (g : G) (cn : Nat) (lv : Value) (xs : List Int) (mb : Nat) (D : DataW (Option Addr)) : Prop where
  c : Con kw w (addG g cn lv xs mb)
  l : Lst kw w g
  m : w.ownsMap Tryz.prog 3 ptrElem mb g.nx D ∧ (∀ x : Int, D.atKey (.int .i64 x) (.held none) = .held (if live g x = true then some ⟨g.cb x.toNat, 0, none⟩ else none)) ∧ (∀ x : Int, Maps.has D (.int .i64 x) = live g x) ∧ Maps.size D = liveN g
  hc : w.heap[cn]? = some (.cells #[.int .i64 g.nx, lv, .int .i64 (-1), .int .i64 (-1), .int .i64 0, .bool false] 97 (0, 0))
  hf : ∀ i, i < g.nx → g.cb i ≠ cn
  hl : LitRow w lv xs
  lo : kw.B ≤ cn ∧ kw.B ≤ mb

theorem MapAt.parts {w : World} {g : G} {mb : Nat} {D : DataW (Option Addr)} (m : MapAt w g mb D) : w.ownsMap Tryz.prog 3 ptrElem mb g.nx D ∧ (∀ x : Int, D.atKey (.int .i64 x) (.held none) = .held (if live g x = true then some ⟨g.cb x.toNat, 0, none⟩ else none)) ∧ (∀ x : Int, Maps.has D (.int .i64 x) = live g x) ∧ Maps.size D = liveN g := ⟨m.own, m.val, m.has, m.size⟩

section
variable {k : K} {kw : WK} {w w1 w2 : World} {g : G} {cn mb : Nat} {lv : Value} {xs : List Int} {D : DataW (Option Addr)}

theorem map_ne {w : World} {a b : Nat} {es : Array MapEntry} {q : Nat} {c : Array Value} {T : TypeId} {f : Nat × Nat} (h1 : w.heap[a]? = some (.map es q)) (h2 : w.heap[b]? = some (.cells c T f)) : b ≠ a := by
  rintro rfl; rw [h1] at h2; cases h2

theorem Con.map (h : Con kw w g) {es : Array MapEntry} {q : Nat} (hm : w.heap[mb]? = some (.map es q)) (gr : w.grownBy w1 (some mb)) : Con kw w1 g := by
  refine h.other gr (fun j T e t => ?_)
  cases e
  obtain ⟨c, f, t⟩ := t
  rw [hm] at t; cases t

/-- It is in the map. -/
theorem Mid.put (h : Mid kw w g cn lv xs mb D) (own : w1.ownsMap Tryz.prog 3 ptrElem mb (g.nx + 1) (D.put (.int .i64 g.nx) (.held (some ⟨cn, 0, none⟩)))) (gr : w.grownBy w1 (some mb)) : St kw w1 (addG g cn lv xs mb) := by
  obtain ⟨es, q, hm, _⟩ := id h.m.1
  exact ⟨h.c.map hm gr, h.l.add gr hm h.hc h.hf h.hl h.lo (MapAt.add (w := w) (g := g) ⟨h.m.1, h.m.2.1, h.m.2.2.1, h.m.2.2.2⟩ own)⟩

theorem Mid.fw (h : Mid kw w g cn lv xs mb D) (gr : w.grownBy w1 (some mb)) : FW kw.B w w1 := by
  obtain ⟨es, q, hm, _⟩ := id h.m.1
  refine FW.grown gr (fun j T e t => ?_) (fun j e => by cases e; exact h.lo.2)
  cases e
  obtain ⟨c, f, t⟩ := t
  rw [hm] at t; cases t

theorem Mid.up (h : Mid kw w g cn lv xs mb D) (hn : g.nx ≤ 1000000) : ∃ w1, (Instr.mapUpdate 81 (.map (some mb)) (.int .i64 g.nx) (.pointer (some ⟨cn, 0, none⟩))).run Tryz.prog w = .ok () w1 ∧ Hid (St kw w1 (addG g cn lv xs mb)) ∧ Hid (FW kw.B w w1) := by
  obtain ⟨w1, h1, h2, h3⟩ := h.m.1.update law3 Tryz.underlying81 (by unfold maxLen; omega) (keyOf_int_mk Tryz.underlying3 (wf_of (x := (g.nx : Int)) (by omega) (by omega))) (val := .pointer (some ⟨cn, 0, none⟩)) (d := .held (some ⟨cn, 0, none⟩)) (ps := []) rfl
  exact ⟨w1, h1, h.put h2 h3, h.fw h3⟩

theorem Mid.drew (h : Mid kw w g cn lv xs mb D) : Mid kw w.drew g cn lv xs mb D := ⟨h.c.same (fun _ _ _ _ => rfl), h.l.same (fun _ _ _ _ => rfl) (fun _ _ _ _ => rfl) (fun _ _ _ _ _ _ _ => rfl), h.m, h.hc, h.hf, h.hl.same (fun _ _ _ _ => rfl), h.lo⟩

theorem Mid.c0 (h : Mid kw w g cn lv xs mb D) : w.cell? ⟨kw.OB, 0, none⟩ = some (.map (some mb)) := by rw [cell_of h.c.ob]; rfl
theorem Mid.d1 (h : Mid kw w g cn lv xs mb D) : w.cell? ⟨cn, 0, none⟩ = some (.int .i64 g.nx) := by rw [cell_of h.hc]; rfl

/-- The clause in its own block. -/
def ccell (g : G) (lv : Value) : Array Value := #[.int .i64 g.nx, lv, .int .i64 (-1), .int .i64 (-1), .int .i64 0, .bool false]

/-- The number is used: the map was there. -/
theorem Mid.old (s : St kw w g) (hc : w.heap[cn]? = some (.cells (ccell g lv) 97 (0, 0))) (hf : ∀ i, i < g.nx → g.cb i ≠ cn) (hl : LitRow w lv xs) (lo : kw.B ≤ cn) (hm : g.mp = some mb) :
    ∃ D, Mid kw (w.setCell ⟨kw.OB, 1, none⟩ (.int .i64 ((g.nx : Int) + 1))) g cn lv xs mb D := by
  have gr := grown_set w ⟨kw.OB, 1, none⟩ (.int .i64 ((g.nx : Int) + 1))
  have ht : Typ w kw.OB 84 := ⟨_, _, s.c.ob⟩
  have L := s.l.other gr ht (by decide) (by decide) (by decide)
  have key : ∀ j T, Typ w j T → T ≠ 84 → (w.setCell ⟨kw.OB, 1, none⟩ (.int .i64 ((g.nx : Int) + 1))).heap[j]? = w.heap[j]? := fun j T t hne => gr.block j t.lt (fun e => hne (by cases e; exact t.one ht))
  have hmp := L.mp
  rcases hmp with ⟨e, _⟩ | ⟨mb', D, e, m⟩
  · rw [hm] at e; cases e
  · rw [hm] at e; cases e
    refine ⟨D, ⟨?_, ?_, ?_, s.c.lo⟩, L, m.parts, ?_, hf, hl.same (fun j _ _ t => key j 3 t (by decide)), lo, s.l.lo.m mb hm⟩
    · rw [set_same s.c.ob]
      simp [addG, hm]
    · obtain ⟨c, h1, h2⟩ := s.c.wb
      exact ⟨c, by rw [key _ 82 ⟨_, _, h1⟩ (by decide)]; exact h1, h2⟩
    · obtain ⟨c, h1, h2⟩ := s.c.fb
      exact ⟨c, by rw [key _ 144 ⟨_, _, h1⟩ (by decide)]; exact h1, h2⟩
    · rw [key _ 97 ⟨_, _, hc⟩ (by decide)]; exact hc

/-- .. and the map is new. -/
theorem Mid.new (s : St kw w g) (hc : w.heap[cn]? = some (.cells (ccell g lv) 97 (0, 0))) (hf : ∀ i, i < g.nx → g.cb i ≠ cn) (hl : LitRow w lv xs) (lo : kw.B ≤ cn) (hm : g.mp = none) (hs : (w.setCell ⟨kw.OB, 1, none⟩ (.int .i64 ((g.nx : Int) + 1))).heap.size = mb) :
    Mid kw (((w.setCell ⟨kw.OB, 1, none⟩ (.int .i64 ((g.nx : Int) + 1))).alloc (.map #[] 0)).setCell ⟨kw.OB, 0, none⟩ (.map (some mb))) g cn lv xs mb (.map []) := by
  have gr1 := grown_set w ⟨kw.OB, 1, none⟩ (.int .i64 ((g.nx : Int) + 1))
  have gr2 := grown_new (w.setCell ⟨kw.OB, 1, none⟩ (.int .i64 ((g.nx : Int) + 1))) (.map #[] 0) (some kw.OB)
  have gr3 := grown_set ((w.setCell ⟨kw.OB, 1, none⟩ (.int .i64 ((g.nx : Int) + 1))).alloc (.map #[] 0)) ⟨kw.OB, 0, none⟩ (.map (some mb))
  have gr := grown_two (grown_two gr1 gr2) gr3
  have ht : Typ w kw.OB 84 := ⟨_, _, s.c.ob⟩
  have L := s.l.other gr ht (by decide) (by decide) (by decide)
  have key := fun j T (t : Typ w j T) (hne : T ≠ 84) => gr.block j t.lt (fun e => hne (by cases e; exact t.one ht))
  have hz : g.nx = 0 := by
    rcases s.l.mp with ⟨_, e⟩ | ⟨mb', D, e, m⟩
    · exact e
    · rw [hm] at e; cases e
  have hob : kw.OB < w.heap.size := blk_lt s.c.ob
  have hsz := gr1.size
  have hlv : ∀ x, live g x = false := fun x => by simp [live, hz]; omega
  refine ⟨⟨?_, ?_, ?_, s.c.lo⟩, L, ⟨?_, fun x => ?_, fun x => ?_, ?_⟩, ?_, hf, hl.same (fun j _ _ t => key j 3 t (by decide)), lo, ?_⟩
  · have e1 : (w.setCell ⟨kw.OB, 1, none⟩ (.int .i64 ((g.nx : Int) + 1))).heap[kw.OB]? = some _ := set_same s.c.ob _
    have e2 := ((grown_new (w.setCell ⟨kw.OB, 1, none⟩ (.int .i64 ((g.nx : Int) + 1))) (.map #[] 0) none).block kw.OB (by omega) (by simp)).trans e1
    rw [set_same e2]
    simp [addG]
  · obtain ⟨c, h1, h2⟩ := s.c.wb
    exact ⟨c, by rw [key _ 82 ⟨_, _, h1⟩ (by decide)]; exact h1, h2⟩
  · obtain ⟨c, h1, h2⟩ := s.c.fb
    exact ⟨c, by rw [key _ 144 ⟨_, _, h1⟩ (by decide)]; exact h1, h2⟩
  · have o := World.ownsMap_made (w.setCell ⟨kw.OB, 1, none⟩ (.int .i64 ((g.nx : Int) + 1))) Tryz.prog 3 ptrElem
    rw [hs] at o
    exact (o.mono (Nat.zero_le _)).setCell (a := ⟨kw.OB, 0, none⟩) (by show mb ≠ kw.OB; omega) _
  · rw [hlv x]; rfl
  · rw [hlv x]; rfl
  · simp [liveN, hz]; rfl
  · rw [key _ 97 ⟨_, _, hc⟩ (by decide)]; exact hc
  · have := s.c.lo.1; omega
end

end Go.Proofs.YtimfjoinjfecjaaGreat
