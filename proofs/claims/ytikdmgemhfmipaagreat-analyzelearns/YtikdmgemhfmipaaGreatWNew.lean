/-
  New: a watch with no clauses.
-/
import Derived.Test.YtikdmgemhfmipaaGreatWRun
namespace Go.Proofs.YtikdmgemhfmipaaGreat
open Go.RowKit Go.Maps
set_option linter.unusedVariables false

theorem Tryz.info50 : (Tryz.prog.info? 50).map (fun i => (i.zero, i.size, i.bytes)) = some (some (.slice none 0 0), 1, 24) := by kernel_rfl
theorem Tryz.info107 : (Tryz.prog.info? 107).map (fun i => (i.zero, i.size, i.bytes)) = some (some (.agg #[.int .i64 0, .slice none 0 0]), 2, 32) := by kernel_rfl

def zrows (m : Nat) : Array Value := madeCells #[.slice none 0 0] m
def zfact (m : Nat) : Array Value := madeCells #[.int .i64 0, .slice none 0 0] (m * 2)

theorem make64 (n : Nat) (hn : n ≤ 2097152) (w : World) : (Instr.makeSlice 47 (.int .i64 n) (.int .i64 n)).run Tryz.prog w = .ok (.slice (some ⟨w.heap.size, 0, none⟩) n n) (w.alloc (.cells (zrows n) 50)) := by
  obtain ⟨i0, hi, hz0, hz1, hz2⟩ := info_parts Tryz.info50
  have := run_make (P := Tryz.prog) w 47 50 i0 (.slice none 0 0) Tryz.underlying47 hi hz0 .i64 .i64 n n (by omega) (Int.le_refl _) (by rw [hz2]; omega) (by omega)
  rw [this, hz1]
  simp [Value.cells, zrows]

theorem make65 (n : Nat) (hn : n ≤ 1048576) (w : World) : (Instr.makeSlice 48 (.int .i64 n) (.int .i64 n)).run Tryz.prog w = .ok (.slice (some ⟨w.heap.size, 0, none⟩) n n) (w.alloc (.cells (zfact n) 107)) := by
  obtain ⟨i0, hi, hz0, hz1, hz2⟩ := info_parts Tryz.info107
  have := run_make (P := Tryz.prog) w 48 107 i0 (.agg #[.int .i64 0, .slice none 0 0]) Tryz.underlying48 hi hz0 .i64 .i64 n n (by omega) (Int.le_refl _) (by rw [hz2]; omega) (by omega)
  rw [this, hz1]
  simp [Value.cells, zfact]

theorem zrows_at {m j : Nat} (h : j < m) : (zrows m)[j]? = some (.slice none 0 0) := by
  simp only [zrows, madeCells, Array.getElem?_map, Array.getElem?_range, if_pos h]
  simp [Nat.mod_one]

theorem zfact_at {m j : Nat} (h : j < m) : (zfact m)[j * 2]? = some (.int .i64 0) ∧ (zfact m)[j * 2 + 1]? = some (.slice none 0 0) := by
  simp only [zfact, madeCells, Array.getElem?_map, Array.getElem?_range, if_pos (show j * 2 < m * 2 by omega), if_pos (show j * 2 + 1 < m * 2 by omega)]
  have e1 : j * 2 % 2 = 0 := by omega
  have e2 : (j * 2 + 1) % 2 = 1 := by omega
  simp [e1, e2]

/-- A watch that has nothing. -/
def g0 : G := ⟨0, fun _ => 0, fun _ => [], fun _ => .slice none 0 0, fun _ => 0, fun _ => 0, fun _ => 0, fun _ => false, fun _ => [], fun _ => .slice none 0 0, fun _ => 0, none, .slice none 0 0, 0, 0⟩

theorem St.zero {k : WK} {w : World} (hn : k.n ≤ 1048576) (ho : w.heap[k.OB]? = some (.cells #[.map none, .int .i64 0, .slice (some ⟨k.WB, 0, none⟩) (2 * k.n) (2 * k.n), .slice (some ⟨k.FB, 0, none⟩) k.n k.n, .slice none 0 0, .slice none 0 0, .int .i64 0, .int .i64 0] 52 (0, 0)))
    (hw : w.heap[k.WB]? = some (.cells (zrows (2 * k.n)) 50 (0, 0))) (hf : w.heap[k.FB]? = some (.cells (zfact k.n) 107 (0, 0))) (hlo : k.B ≤ k.OB ∧ k.B ≤ k.WB ∧ k.B ≤ k.FB) : St k w g0 := by
  refine ⟨⟨ho, ⟨_, hw, by simp [zrows, size_madeCells], fun i hi => zrows_at hi⟩, ⟨_, hf, by simp [zfact, size_madeCells], fun v hv => zfact_at hv⟩, hlo⟩, hn, ?_, ?_, fun s _ => PRow.nil w _, ?_, ?_, ?_, .inl ⟨rfl, rfl⟩, ?_, ?_, ?_⟩
  · intro i hi; simp [g0] at hi
  · intro i j hi; simp [g0] at hi
  · intro s _ i hi; simp [g0] at hi
  · intro s t _ _ _ j hj; simp [g0, Value.ownBlock] at hj
  · intro i hi; simp [g0] at hi
  · intro i hi; simp [g0] at hi
  · intro s _ j hj; simp [g0, Value.ownBlock] at hj
  · intro mb h; simp [g0] at h

def WNewEnd (n : Int) (w : World) (OB : Nat) (w' : World) : Prop := ∀ B, B ≤ w.heap.size → ∃ k : WK, k.OB = OB ∧ k.B = B ∧ k.n = cntF n ∧ St k w' g0 ∧ Below w.heap.size w w'

theorem wnew_end {n : Int} {m OB WB FB : Nat} {w w' : World} (hm : cntF n = m) (hle : m ≤ 1048576) (b : Below w.heap.size w w')
    (ho : w'.heap[OB]? = some (.cells #[.map none, .int .i64 0, .slice (some ⟨WB, 0, none⟩) (2 * m) (2 * m), .slice (some ⟨FB, 0, none⟩) m m, .slice none 0 0, .slice none 0 0, .int .i64 0, .int .i64 0] 52 (0, 0)))
    (hw : w'.heap[WB]? = some (.cells (zrows (2 * m)) 50 (0, 0))) (hf : w'.heap[FB]? = some (.cells (zfact m) 107 (0, 0))) (hlo : w.heap.size ≤ OB ∧ w.heap.size ≤ WB ∧ w.heap.size ≤ FB) : WNewEnd n w OB w' :=
  fun B hB => ⟨⟨m, OB, WB, FB, B⟩, rfl, rfl, hm.symm, St.zero hle ho hw hf ⟨Nat.le_trans hB hlo.1, Nat.le_trans hB hlo.2.1, Nat.le_trans hB hlo.2.2⟩, b⟩

theorem three (w : World) (o1 o2 o3 : Obj) : (((w.alloc o1).alloc o2).alloc o3).drew.heap[w.heap.size]? = some o1 ∧ (((w.alloc o1).alloc o2).alloc o3).drew.heap[w.heap.size + 1]? = some o2 ∧ (((w.alloc o1).alloc o2).alloc o3).drew.heap[w.heap.size + 1 + 1]? = some o3 := by
  have e1 : (w.alloc o1).heap.size = w.heap.size + 1 := by simp
  have e2 : ((w.alloc o1).alloc o2).heap.size = w.heap.size + 1 + 1 := by simp
  refine ⟨?_, ?_, ?_⟩
  · show (((w.alloc o1).alloc o2).alloc o3).heap[w.heap.size]? = some o1
    rw [(grown_new ((w.alloc o1).alloc o2) o3 none).block _ (by rw [e2]; omega) (by simp), (grown_new (w.alloc o1) o2 none).block _ (by rw [e1]; omega) (by simp)]
    exact new_same w _
  · show (((w.alloc o1).alloc o2).alloc o3).heap[w.heap.size + 1]? = some o2
    rw [(grown_new ((w.alloc o1).alloc o2) o3 none).block _ (by rw [e2]; omega) (by simp)]
    have := new_same (w.alloc o1) o2
    rw [e1] at this; exact this
  · show (((w.alloc o1).alloc o2).alloc o3).heap[w.heap.size + 1 + 1]? = some o3
    have := new_same ((w.alloc o1).alloc o2) o3
    rw [e2] at this; exact this

theorem wnew_two {n : Int} {m m2 : Nat} (w : World) (hm : cntF n = m) (h2 : m2 = 2 * m) (hle : m ≤ 1048576) :
    (∃ OB, .returned (.pointer (some ⟨w.heap.size + 1 + 1, 0, none⟩)) = Ending.returned (.pointer (some ⟨OB, 0, none⟩)) ∧ WNewEnd n w OB (((w.alloc (.cells (zrows m2) 50)).alloc (.cells (zfact m) 107)).alloc (.cells #[.map none, .int .i64 0, .slice (some ⟨w.heap.size, 0, none⟩) m2 m2, .slice (some ⟨w.heap.size + 1, 0, none⟩) m m, .slice none 0 0, .slice none 0 0, .int .i64 0, .int .i64 0] 52)).drew) ∧
    (∃ OB, .returned (.pointer (some ⟨w.heap.size + 1 + 1, 0, none⟩)) = Ending.returned (.pointer (some ⟨OB, 0, none⟩)) ∧ WNewEnd n w OB (((w.alloc (.cells (zfact m) 107)).alloc (.cells (zrows m2) 50)).alloc (.cells #[.map none, .int .i64 0, .slice (some ⟨w.heap.size + 1, 0, none⟩) m2 m2, .slice (some ⟨w.heap.size, 0, none⟩) m m, .slice none 0 0, .slice none 0 0, .int .i64 0, .int .i64 0] 52)).drew) := by
  subst h2
  refine ⟨⟨_, rfl, ?_⟩, ⟨_, rfl, ?_⟩⟩
  · obtain ⟨a1, a2, a3⟩ := three w (.cells (zrows (2 * m)) 50) (.cells (zfact m) 107) (.cells #[.map none, .int .i64 0, .slice (some ⟨w.heap.size, 0, none⟩) (2 * m) (2 * m), .slice (some ⟨w.heap.size + 1, 0, none⟩) m m, .slice none 0 0, .slice none 0 0, .int .i64 0, .int .i64 0] 52)
    exact wnew_end hm hle (by go_grown) a3 a1 a2 (by omega)
  · obtain ⟨a1, a2, a3⟩ := three w (.cells (zfact m) 107) (.cells (zrows (2 * m)) 50) (.cells #[.map none, .int .i64 0, .slice (some ⟨w.heap.size + 1, 0, none⟩) (2 * m) (2 * m), .slice (some ⟨w.heap.size, 0, none⟩) m m, .slice none 0 0, .slice none 0 0, .int .i64 0, .int .i64 0] 52)
    exact wnew_end hm hle (by go_grown) a3 a2 a1 (by omega)

set_option maxHeartbeats 1000000 in
theorem wnew_any (n : Int) (w : World) : Calls Tryz.prog 7 #[.int .i64 n] w fun e w' => ∃ OB, e = .returned (.pointer (some ⟨OB, 0, none⟩)) ∧ WNewEnd n w OB w' := by
  by_cases h0 : n < 0
  · have HC : Hid (cntF n = 0) := hid (by simp [cntF, h0])
    have hmk := make65 0 (by omega)
    have hmk2 := make64 0 (by omega)
    simp only [Int.natCast_zero] at hmk hmk2
    go_enter Tryz.func7, Tryz.ntmps7
    go_wp2
    go_region
    all_goals go_wp2
    all_goals go_ret
    · exact (wnew_two w HC.out rfl (by omega)).1
    · exact (wnew_two w HC.out rfl (by omega)).2
  · by_cases h1 : 1048576 < n
    · have HC : Hid (cntF n = 0) := hid (by simp [cntF, h1])
      have hmk := make65 0 (by omega)
      have hmk2 := make64 0 (by omega)
      simp only [Int.natCast_zero] at hmk hmk2
      go_enter Tryz.func7, Tryz.ntmps7
      go_wp2
      go_region
      all_goals go_wp2
      all_goals go_ret
      · exact (wnew_two w HC.out rfl (by omega)).1
      · exact (wnew_two w HC.out rfl (by omega)).2
    · obtain ⟨m, rfl⟩ : ∃ m : Nat, n = m := ⟨n.toNat, by omega⟩
      have HC : Hid (cntF m = m) := hid (by simp only [cntF]; rw [if_neg (by omega)]; omega)
      have h1' : m ≤ 1048576 := by omega
      obtain ⟨m2, hm2⟩ : ∃ m2 : Nat, m2 = 2 * m := ⟨_, rfl⟩
      have hmk := make65 m h1'
      have hmk2 := make64 m2 (by omega)
      have hmul : (2 * (m : Int)) = (m2 : Int) := by omega
      have h1d : decide ((1048576 : Int) < m) = false := by simp; omega
      have HM := hid hm2
      have hb2 : (m2 : Int) ≤ 2097152 := by omega
      clear hm2
      go_enter Tryz.func7, Tryz.ntmps7
      go_wp2
      go_region
      all_goals go_wp2
      all_goals go_ret
      · exact (wnew_two w HC.out HM.out h1').1
      · exact (wnew_two w HC.out HM.out h1').2

theorem wnew_is (n : Int) (w : World) (B : Nat) (hB : B ≤ w.heap.size) : Calls Tryz.prog 7 #[.int .i64 n] w fun e w' => ∃ k : WK, e = .returned (.pointer (some ⟨k.OB, 0, none⟩)) ∧ Hid (St k w' g0) ∧ Hid (k.n = cntF n) ∧ Hid (k.B = B) ∧ Hid (Below w.heap.size w w') := by
  refine (wnew_any n w).mono fun e w' h => ?_
  obtain ⟨OB, rfl, h⟩ := h
  obtain ⟨k, rfl, h1, h2, h3, h4⟩ := h B hB
  exact ⟨k, rfl, h3, h2, h1, h4⟩

/-- A new watch beside a new trail. -/
theorem Wa.new {k : K} {kw : WK} {w : World} (t : Trl k w [] 0 noV) (s : St kw w g0) (hn : k.n = kw.n) (hb : kw.B ≤ k.B) : Wa k kw w g0 [] 0 noV [] := by
  refine ⟨⟨t, s, hn, hb, ?_⟩, ⟨?_, ?_, ?_, ?_, ?_, ?_, ?_⟩, Told.nil k _ w, ⟨none, 0, rfl⟩, by simp, by simp, ?_⟩
  · intro i hi; simp [g0] at hi
  · intro i hi; simp [g0] at hi
  · intro i hi; simp [g0] at hi
  · intro i hi; simp [g0] at hi
  · intro l hl i hi; simp [g0] at hi
  · intro l hl; simp [g0]
  · intro q x hx; simp at hx
  · intro i hi; simp [g0] at hi
  · intro q e he; simp at he

end Go.Proofs.YtikdmgemhfmipaaGreat
