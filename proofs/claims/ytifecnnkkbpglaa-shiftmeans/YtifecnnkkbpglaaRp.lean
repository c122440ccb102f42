/-
  slices.Repeat of one number, and math/bits.Mul.
-/
import Derived.Test.YtifecnnkkbpglaaAl
namespace Go.Proofs.Ytifecnnkkbpglaa
open Go.RowKit
set_option linter.unusedVariables false

theorem and_low (m : Nat) (hm : m ≤ 1000) : bits .and .u64 m 4294967295 = m := by
  rw [u64_and _ _ (by omega) (by omega) (by omega) (by omega)]
  have : (m : Int).toNat &&& (4294967295 : Int).toNat = m := by
    rw [Int.toNat_natCast, show (4294967295 : Int).toNat = 2 ^ 32 - 1 by decide, Nat.and_two_pow_sub_one_eq_mod, Nat.mod_eq_of_lt (by omega)]
  rw [this]

theorem mul64_one (m : Nat) (hm : m ≤ 1000) (w : World) : Calls Try.prog 54 #[.int .u64 1, .int .u64 m] w fun e w' => e = .returned (.tuple #[.int .u64 0, .int .u64 m]) ∧ w' = w := by
  have h1 := and_low m hm
  have h2 : bits .and .u64 1 4294967295 = 1 := and_low 1 (by omega)
  have h0 : bits .and .u64 0 4294967295 = 0 := and_low 0 (by omega)
  have h3 : (m : Int) / 4294967296 = 0 := by omega
  have h5 : IntKind.u64.wrap (m : Int) = m := Wd.wrap_id _ (by omega) (by omega)
  go_enter Try.func54, Try.ntmps54
  go_wp2
  go_ret2
  exact ⟨by simp, rfl⟩

theorem mul_one (m : Nat) (hm : m ≤ 1000) (w : World) : Calls Try.prog 37 #[.int .u64 1, .int .u64 m] w fun e w' => e = .returned (.tuple #[.int .u64 0, .int .u64 m]) ∧ w' = w := by
  go_enter Try.func37, Try.ntmps37
  go_wp2_with (go_at_call 54; with_reducible (refine (mul64_one m hm _).mono ?_); rintro e w1 ⟨rfl, rfl⟩)
  go_ret2
  exact ⟨rfl, rfl⟩

/-- The first so many are the number. -/
def Rk (w : World) (rb m k : Nat) (y : Int) : Prop := w.heap[rb]? = some (.cells ((List.replicate k (Value.int .i64 y) ++ List.replicate (m - k) (Value.int .i64 0))).toArray 3 (0, 0))

theorem rk_more {m k q : Nat} {u z : Value} (hk : k + q ≤ m) : splice (List.replicate k u ++ List.replicate (m - k) z) k (List.replicate q u) = List.replicate (k + q) u ++ List.replicate (m - (k + q)) z := by
  unfold splice
  have e1 : (List.replicate k u ++ List.replicate (m - k) z).take k = List.replicate k u := by
    rw [List.take_append_of_le_length (by simp), List.take_of_length_le (by simp)]
  have e2 : (List.replicate k u ++ List.replicate (m - k) z).drop (k + q) = List.replicate (m - (k + q)) z := by
    rw [List.drop_append, List.drop_of_length_le (by simp)]
    simp
    omega
  rw [List.length_replicate, e1, e2, ← List.append_assoc, List.replicate_append_replicate]

theorem rC_eq (m : Nat) (y : Int) : rC m = ((List.replicate 0 (Value.int .i64 y) ++ List.replicate (m - 0) (Value.int .i64 0))).toArray := by simp [rC]

theorem Rk.mr {w : World} {rb m : Nat} {y : Int} (h : Rk w rb m m y) : Mr w rb m (List.replicate m y) := by
  refine ⟨?_, by simp⟩
  unfold Rk at h
  rw [h]; simp

theorem Rk.src {w : World} {rb m k q : Nat} {y : Int} (h : Rk w rb m k y) (hq : q ≤ k) : ∀ (j : Nat) (v : Value), (List.replicate q (Value.int .i64 y))[j]? = some v → w.cell? ((⟨rb, 0, none⟩ : Addr).add j) = some v := by
  intro j v hj
  obtain ⟨h1, h2⟩ := List.getElem?_eq_some_iff.1 hj
  simp at h1 h2
  have e : (⟨rb, 0, none⟩ : Addr).add j = ⟨rb, j, none⟩ := by
    by_cases hz : j = 0
    · subst hz; rfl
    · simp [Addr.add, hz]
  unfold Rk at h
  rw [e, cell_of h, ← h2]
  rw [List.getElem?_toArray, List.getElem?_append_left (by simp; omega), List.getElem?_replicate, if_pos (by omega)]

theorem Rk.blk {w : World} {rb m k : Nat} {y : Int} (h : Rk w rb m k y) : w.heap[rb]? = some (.cells ((List.replicate k (Value.int .i64 y) ++ List.replicate (m - k) (Value.int .i64 0))).toArray 3 (0, 0)) := h

theorem Rk.drew {w : World} {rb m k : Nat} {y : Int} (h : Rk w rb m k y) : Rk w.drew rb m k y := h

theorem Rk.next {w' : World} {rb m k q : Nat} {y : Int} (h : w'.heap[rb]? = some (.cells (splice (List.replicate k (Value.int .i64 y) ++ List.replicate (m - k) (Value.int .i64 0)) k (List.replicate q (Value.int .i64 y))).toArray 3 (0, 0))) (hk : k + q ≤ m) : Rk w' rb m (k + q) y := by
  unfold Rk; rw [h, rk_more hk]

theorem one_cell (q : Nat) (y : Int) : ∀ v ∈ List.replicate q (Value.int .i64 y), v.oneCell' = true := by
  intro v hv
  rw [(List.mem_replicate.1 hv).2]; rfl

theorem sz3 : (Try.prog.info? 3).map (·.size) = some 1 := by kernel_rfl

set_option maxHeartbeats 400000 in
theorem repeat_any (w : World) (y : Int) (y0 : -9223372036854775808 ≤ y ∧ y ≤ 9223372036854775807) (m : Nat) (hm : m ≤ 1000) :
    Calls Try.prog 19 #[.slice (some ⟨w.heap.size, 0, none⟩) 1 1, .int .i64 m] (w.alloc (.cells #[.int .i64 y] 3)) fun e w' => ∃ rb, e = .returned (.slice (some ⟨rb, 0, none⟩) m m) ∧ Hid (TR w' (some ⟨rb, 0, none⟩) m m (List.replicate m y)) ∧ Hid (Below w.heap.size w w') ∧ Hid (Mr w' rb m (List.replicate m y) ∧ w.heap.size ≤ rb) := by
  have B0 := hid ((Below.refl w.heap.size w).alloc (Nat.le_refl _) (.cells #[.int .i64 y] 3))
  have SC : Hid (∀ (o : Obj) (j : Nat) (v : Value), (List.replicate (min 1 m) (Value.int .i64 y))[j]? = some v → ((w.alloc (.cells #[.int .i64 y] 3)).alloc o).cell? ((⟨w.heap.size, 0, none⟩ : Addr).add j) = some v) := hid (fun o j v hj => by
    obtain ⟨h1, h2⟩ := List.getElem?_eq_some_iff.1 hj
    simp at h1 h2
    have e : j = 0 := by omega
    subst e
    rw [← h2]
    have b1 : Below (w.alloc (.cells #[.int .i64 y] 3)).heap.size (w.alloc (.cells #[.int .i64 y] 3)) ((w.alloc (.cells #[.int .i64 y] 3)).alloc o) := (Below.refl _ _).alloc (Nat.le_refl _) _
    have c0 : (w.alloc (.cells #[.int .i64 y] 3)).cell? ⟨w.heap.size, 0, none⟩ = some (.int .i64 y) := by rw [cell_of (new_same w _)]; rfl
    exact (b1.cell (cell_lt c0)).trans c0)
  have SZ : Hid (w.heap.size ≤ (w.alloc (.cells #[.int .i64 y] 3)).heap.size) := hid B0.out.size
  generalize hwa : w.alloc (.cells #[.int .i64 y] 3) = wa at B0 SC SZ ⊢
  have hmk := makeR m (by omega) wa
  have NR : Hid (Rk (wa.alloc (.cells (rC m) 3)) wa.heap.size m 0 y) := hid (by unfold Rk; rw [← rC_eq]; exact new_same wa _)
  have B1 := hid (B0.out.alloc SZ.out (.cells (rC m) 3))
  have h5 : IntKind.u64.wrap (m : Int) = m := Wd.wrap_id _ (by omega) (by omega)
  have hg : ¬ (9223372036854775807 : Int) < m := by omega
  obtain ⟨q0, hq0⟩ : ∃ q0, q0 = min 1 m := ⟨_, rfl⟩
  rw [← hq0] at SC
  have hl0 : (List.replicate q0 (Value.int .i64 y)).length = q0 := by simp
  have HQ0 : Hid (q0 = Nat.min 1 m) := hid hq0
  have SZ2 := SZ.out
  clear hwa
  go_enter Try.func19, Try.ntmps19
  go_wp2_with (first
    | (go_at_call 37; with_reducible (refine (mul_one m hm _).mono ?_); rintro e w1 ⟨rfl, rfl⟩)
    | (with_reducible (show wpList Try.prog _ _ (Oper.mk (some 33) _ _ _ _ _ :: _) _ _); go_loud (refine wpList_copy_splice rfl (.tmp 31) (.tmp 32) 29 29 rfl 3 Try.underlying29 sz3 _ _ _ _ _ _ rfl rfl w1.heap.size 0 _ 3 NR.out.blk (List.replicate q0 (Value.int .i64 y)) (hl0.trans HQ0.out) (fun _ => ⟨rfl, _, rfl, SC.out _⟩) (by simp; omega) (one_cell _ _) w.heap.size w B1.out SZ2 ?_); intro w2 hg2 hb2))
  have N2 : Hid (Rk w2 w1.heap.size m q0 y) := hid (by have := Rk.next hg2.out (by omega); rwa [Nat.zero_add] at this)
  have B2 := hid hb2
  clear hg2 hb2 hmk NR B1
  go_loopw [8] (fun n wr => ∃ k : Nat, k ≤ m ∧ (0 < m → 0 < k) ∧ n = .int .i64 k ∧ Hid (Rk wr w1.heap.size m k y) ∧ Hid (Below w.heap.size w wr)) (fun n _ => m - (intOf n).toNat)
  case atStart => exact ⟨q0, by omega, by omega, by rw [hq0], N2, B2⟩
  case round =>
    clear N2 B2
    obtain ⟨k, hk, hk0, rfl, hr, hb⟩ := hrel
    by_cases hlt : k < m
    · have hk1 := hk0 (by omega)
      obtain ⟨q, hq⟩ : ∃ q, q = min k (m - k) := ⟨_, rfl⟩
      have hqm : k + q ≤ m := by omega
      have hq1 : 0 < q := by omega
      have HD := hid hr.out.drew
      have SR := hid (HD.out.src (q := q) (by omega))
      have HBD := hid hb.out.drew
      have HQ := hid hq
      have hne : ¬ m = k := by omega
      have hw : IntKind.i64.wrap ((k : Int) + (q : Int)) = ((k + q : Nat) : Int) := IntWalk.i64_in _ (by omega)
      clear hq
      go_wp2
      go_region_held3 (fun _ => True) (exact trivial) (first | (refine step_copy_splice rfl (.tmp 41) (.tmp 44) 29 29 rfl 3 Try.underlying29 sz3 (some ⟨w1.heap.size, k, none⟩) (some ⟨w1.heap.size, 0, none⟩) (m - k) (m - k) k m (by first | (simp; done) | (simp [go_sem]; done)) (by first | (simp; done) | (simp [go_sem]; done)) w1.heap.size k _ 3 HD.out.blk (List.replicate q (Value.int .i64 y)) (by rw [List.length_replicate]; exact HQ.out) (fun _ => ⟨rfl, _, rfl, SR.out⟩) (by simp <;> omega) (one_cell _ _) w.heap.size w HBD.out SZ2 ?_; intro w4 hg4 hb4; have N4 := hid (Rk.next hg4.out hqm); have B4 := hid hb4))
      all_goals go_wp2
      go_roundw
      case rel => exact ⟨k + q, by omega, by omega, by go_num, N4, B4⟩
      case measure => simp only [intOf]; omega
    · have e : k = m := by omega
      subst e
      have T0 := hid (hr.out.mr.trow (fun x hx => by rw [(List.mem_replicate.1 hx).2]; exact y0) (by omega))
      go_wp2
      go_ret
      exact ⟨_, rfl, T0, hb, hid ⟨hr.out.mr, SZ2⟩⟩

end Go.Proofs.Ytifecnnkkbpglaa
