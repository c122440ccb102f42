/-
  The document's digits, and its Put.
-/
import Derived.Test.YtdhkabppcdnfeaaDoorPuts
namespace Go.Proofs.YtdhkabppcdnfeaaDoor
open Go.RowKit
open Go.Lib (decDigits itoa byteCells)
set_option linter.unusedVariables false

theorem str_app (a b : List UInt8) : (⟨a.toArray⟩ : ByteArray) ++ ⟨b.toArray⟩ = ⟨(a ++ b).toArray⟩ := by
  apply ByteArray.ext
  rw [ByteArray.data_append]
  simp

theorem dec_le {n : Nat} (h : n ≤ 9223372036854775807) : (decDigits n).length ≤ 21 := by
  have := Go.Lib.itoa_length_le (n : Int) (by omega) (by omega)
  rwa [Go.Lib.itoa_nonneg] at this

/-- Two texts, one behind the other. -/
theorem add_text (x y : List UInt8) (hx : x.length ≤ 1000000000000) (hy : y.length ≤ 1000000000000) (W : World) : (Op.stringOp .add ⟨x.toArray⟩ ⟨y.toArray⟩).run Tryd.prog W = .ok (.string ⟨(x ++ y).toArray⟩) W := by
  rw [run_string_add_sum W _ _ (by show x.length + y.length ≤ _; omega), str_app]

/-- A digit as a text. -/
def d1 (y : Int) : List UInt8 := [UInt8.ofNat (48 + y.toNat)]

/-- One byte as a text. -/
theorem one_text (W : World) (g : Nat) (y : Int) (h0 : 0 ≤ y) (h1 : y < 10) (hc : W.cell? ⟨g, 0, none⟩ = some (.int .u8 (48 + y))) : (convert 39 9 (.slice (some ⟨g, 0, none⟩) 1 1)).run Tryd.prog W = .ok (.string ⟨(d1 y).toArray⟩) W := by
  refine run_convert_bytes_back (P := Tryd.prog) W 39 9 5 ⟨g, 0, none⟩ 1 [UInt8.ofNat (48 + y.toNat)] Tryd.underlying39 Tryd.underlying5 Tryd.underlying9 (fun j hj => ?_)
  obtain rfl : j = 0 := by simp at hj; omega
  have e : (UInt8.ofNat (48 + y.toNat)).toNat = 48 + y.toNat := (dig_of (by omega)).2.2
  simp only [List.getElem_cons_zero, e]
  rw [Go.Lib.add_plain, hc]
  congr 2; omega

theorem i64_fit {y : Int} (h0 : -9223372036854775808 ≤ y) (h1 : y ≤ 9223372036854775807) : IntKind.i64.wrap y = y := by
  simp only [IntKind.wrap, IntKind.signed, IntKind.bits]; simp; omega
theorem u8_small {y : Int} (h0 : 0 ≤ y) (h1 : y < 10) : IntKind.u8.wrap (48 + y) = 48 + y := by
  simp only [IntKind.wrap, IntKind.signed, IntKind.bits]; simp; omega

set_option maxRecDepth 100000 in
set_option maxHeartbeats 6400000 in
theorem rdig_small (z : Int) (h0 : 0 ≤ z) (h : z < 10) (w : World) :
    Calls Tryd.prog 17 #[.int .i64 z] w fun e w' => e = .returned (.string ⟨(decDigits z.toNat).toArray⟩) ∧ Hid (Below w.heap.size w w') := by
  have hcv := one_text (w.alloc (.cells #[.int .u8 (48 + z)] 5)) w.heap.size z h0 h (by simp)
  have HD := hid (Go.Lib.decDigits_one (i := z.toNat) (by omega))
  have hw := u8_small h0 h
  go_enter Tryd.func17, Tryd.ntmps17
  go_wp2
  go_ret
  exact ⟨by rw [HD.out]; rfl, (Below.refl _ _).alloc (Nat.le_refl _) _⟩

theorem fin_a {w w1 : World} {o : Obj} (h : Below w.drew.heap.size w.drew w1) : Below w.heap.size w (w1.alloc o) :=
  Below.next (w1 := w1) ⟨h.os, h.tape, h.output, h.size, h.block⟩ ((Below.refl _ _).alloc (Nat.le_refl _) _)
theorem fin_b {w w1 : World} {o : Obj} (h : Below (w.alloc o).drew.heap.size (w.alloc o).drew w1) : Below w.heap.size w w1 :=
  Below.next (w1 := w.alloc o) ((Below.refl _ _).alloc (Nat.le_refl _) _) ⟨h.os, h.tape, h.output, h.size, h.block⟩
theorem digit_kept (w w1 : World) (y : Int) (h : Below (w.alloc (.cells #[.int .u8 y] 5)).drew.heap.size (w.alloc (.cells #[.int .u8 y] 5)).drew w1) : w1.cell? ⟨w.heap.size, 0, none⟩ = some (.int .u8 y) := by
  rw [h.cell (by simp)]
  exact World.cell?_alloc_mark w _ _ _ _

set_option maxRecDepth 100000 in
set_option maxHeartbeats 1000000 in
theorem rdig_pos (n : Nat) : ∀ (z : Int), 0 ≤ z → z.toNat = n → z ≤ 4611686018427387904 → ∀ (w : World),
    Calls Tryd.prog 17 #[.int .i64 z] w fun e w' => e = .returned (.string ⟨(decDigits z.toNat).toArray⟩) ∧ Hid (Below w.heap.size w w') := by
  induction n using Nat.strongRecOn with
  | _ n ih =>
    intro z h0 hzn hn w
    by_cases h : z < 10
    · exact rdig_small z h0 h w
    · have IH := hid (ih (z / 10).toNat (by omega) (z / 10) (by omega) rfl (by omega))
      have HD : Hid (decDigits z.toNat = decDigits (z / 10).toNat ++ [UInt8.ofNat (48 + (z % 10).toNat)]) := by
        show _ = _
        rw [dec_big (by omega), show z.toNat / 10 = (z / 10).toNat by omega, show z.toNat % 10 = (z % 10).toNat by omega]
      have m0 : 0 ≤ z % 10 := by omega
      have m1 : z % 10 < 10 := by omega
      have hw := u8_small m0 m1
      have hcv : ∀ (W : World) g, W.cell? ⟨g, 0, none⟩ = some (.int .u8 (48 + z % 10)) → (convert 39 9 (.slice (some ⟨g, 0, none⟩) 1 1)).run Tryd.prog W = .ok (.string ⟨(d1 (z % 10)).toArray⟩) W := fun W g => one_text W g _ m0 m1
      have hw1 : IntKind.i64.wrap (z / 10) = z / 10 := i64_fit (by omega) (by omega)
      have hw2 : IntKind.i64.wrap (48 + z % 10) = 48 + z % 10 := i64_fit (by omega) (by omega)
      have hadd := add_text (decDigits (z / 10).toNat) (d1 (z % 10)) (by have := dec_le (n := (z / 10).toNat) (by omega); omega) (by show 1 ≤ _; omega)
      have tq : z.tdiv 10 = z / 10 := Int.tdiv_eq_ediv_of_nonneg h0
      have tr : z.tmod 10 = z % 10 := Int.tmod_eq_emod_of_nonneg h0
      clear ih hzn
      go_enter Tryd.func17, Tryd.ntmps17
      go_wp2
      go_region_with (go_at_call 17; with_reducible (refine (IH.out _).mono ?_); rintro e w1 ⟨rfl, hb1⟩; try (have hk := digit_kept w w1 (48 + z % 10) hb1.out))
      all_goals go_wp2
      all_goals go_ret
      all_goals exact ⟨by rw [HD.out]; rfl, by first | exact fin_a hb1.out | exact fin_b hb1.out⟩

set_option maxRecDepth 100000 in
set_option maxHeartbeats 1000000 in
theorem rdigits_any (z : Int) (h0 : -4611686018427387904 ≤ z) (h1 : z ≤ 4611686018427387904) (w : World) :
    Calls Tryd.prog 17 #[.int .i64 z] w fun e w' => e = .returned (.string ⟨(itoa z).toArray⟩) ∧ Hid (Below w.heap.size w w') := by
  by_cases h : z < 0
  · have IH := hid (rdig_pos (-z).toNat (-z) (by omega) rfl (by omega))
    have HD : Hid (itoa z = [45] ++ decDigits (-z).toNat) := by
      show _ = _
      unfold Go.Lib.itoa
      rw [if_pos h, show z.natAbs = (-z).toNat by omega]
      rfl
    have hw := i64_fit (y := -z) (by omega) (by omega)
    have hadd := add_text [45] (decDigits (-z).toNat) (by decide) (by have := dec_le (n := (-z).toNat) (by omega); omega)
    go_enter Tryd.func17, Tryd.ntmps17
    go_wp2_with (go_at_call 17; with_reducible (refine (IH.out _).mono ?_); rintro e w1 ⟨rfl, hb1⟩)
    go_ret
    exact ⟨by rw [HD.out]; rfl, hb1⟩
  · refine (rdig_pos z.toNat z (by omega) rfl h1 w).mono fun e w' ⟨he, hb⟩ => ⟨?_, hb⟩
    rw [he, itoa, if_neg h]

/-! ### The document's Put -/
theorem num_half {y : Int} (h0 : -9223372036854775808 ≤ y) (h1 : y ≤ 9223372036854775807) : -4611686018427387904 ≤ numF y ∧ numF y ≤ 4611686018427387904 := by
  unfold numF; split
  · omega
  · split <;> omega

set_option maxHeartbeats 4000000 in
theorem rPut_bad (vars : Int) (ao : Option Addr) (n cap : Nat) (l : List (List Int)) (w : World) (h : Grid w ao n cap l) (hc : ¬ chkF vars l = 0) :
    Calls Tryd.prog 9 #[.int .i64 vars, .slice ao n cap] w fun e w' => e = .returned (.tuple #[.string ⟨#[]⟩, .int .i64 (chkF vars l)]) ∧ Hid (Below w.heap.size w w') := by
  have HG := hid h
  have hc' : (chkF vars l != 0) = true := by simpa using hc
  clear h hc
  go_enter Tryd.func9, Tryd.ntmps9
  go_wp2_with (go_at_call 16; with_reducible (refine (rcheck_any vars _ _ _ l _ HG.out).mono ?_); rintro e w1 ⟨rfl, rfl⟩)
  go_ret2
  exact ⟨rfl, Below.refl _ _⟩

set_option maxRecDepth 100000 in
set_option maxHeartbeats 4000000 in
theorem rPut_ok (vars : Nat) (ao : Option Addr) (n cap : Nat) (l : List (List Int)) (w : World) (h : Grid w ao n cap l) (hc : chkF vars l = 0) (hl : (textT vars l).length ≤ 100000000000) :
    Calls Tryd.prog 9 #[.int .i64 vars, .slice ao n cap] w fun e w' => e = .returned (.tuple #[.string ⟨(textT vars l).toArray⟩, .int .i64 0]) ∧ Hid (Below w.heap.size w w') := by
  have HG := hid h
  obtain ⟨v0, v1, l1, _⟩ := chk_split hc
  have hm := h.max
  have HN := hid h.1
  have hc' : (chkF vars l != 0) = false := by simpa using hc
  have HL : Hid (∀ k, (headT vars l.length ++ (l.take k).flatMap clT).length ≤ 100000000000) := fun k => Nat.le_trans (text_len k) hl
  have HH : Hid ((headT vars l.length).length ≤ 100000000000) := by show _ ≤ _; have := HL.out 0; simpa using this
  have hn1 : n ≤ 1048576 := by rw [← h.1]; exact l1
  have HV : Hid ((itoa (vars : Int)).length ≤ 21 ∧ (itoa (n : Int)).length ≤ 21) := ⟨Go.Lib.itoa_length_le _ (by omega) (by omega), Go.Lib.itoa_length_le _ (by omega) (by omega)⟩
  have HE : Hid (kindT ++ itoa (vars : Int) ++ [32] ++ itoa (n : Int) ++ [10] = headT vars l.length) := by show _ = _; rw [Go.Lib.itoa_nonneg, Go.Lib.itoa_nonneg, HN.out]; simp [headT]
  have a1 := add_text kindT (itoa (vars : Int)) (by decide) (by have := HV.out.1; omega)
  have a2 := add_text (kindT ++ itoa (vars : Int)) [32] (by have := HV.out.1; simp [kindT]; omega) (by decide)
  have a3 := add_text (kindT ++ itoa (vars : Int) ++ [32]) (itoa (n : Int)) (by have := HV.out.1; simp [kindT]; omega) (by have := HV.out.2; omega)
  have a4 := add_text (kindT ++ itoa (vars : Int) ++ [32] ++ itoa (n : Int)) [10] (by have := HV.out.1; have := HV.out.2; simp [kindT]; omega) (by decide)
  rw [HE.out] at a4
  have e0 : ({ data := #[112, 32, 99, 110, 102, 32] } : ByteArray) = ⟨kindT.toArray⟩ := rfl
  clear h hc hl l1
  generalize kindT ++ itoa (vars : Int) = t1 at a1 a2 a3 a4
  generalize t1 ++ [32] = t2 at a2 a3 a4
  generalize t2 ++ itoa (n : Int) = t3 at a3 a4
  obtain ⟨hd, HHd⟩ : ∃ hd, Hid (hd = headT vars l.length) := ⟨_, rfl⟩
  rw [← HHd.out] at a4
  rw [← HHd.out] at HL
  go_enter Tryd.func9, Tryd.ntmps9
  go_wp2_with (first
    | (go_at_call 16; with_reducible (refine (rcheck_any vars _ _ _ l _ HG.out).mono ?_); rintro e w1 ⟨rfl, rfl⟩)
    | (go_at_call 17; first
      | (with_reducible (refine (rdigits_any vars ?_ ?_ _).mono ?_); omega; omega; rintro e w2 ⟨rfl, hb2⟩)
      | (with_reducible (refine (rdigits_any n ?_ ?_ _).mono ?_); omega; omega; rintro e w3 ⟨rfl, hb3⟩)))
  have HB := hid (Below.next hb2.out hb3.out)
  clear a1 a2 a3 a4 hb2 hb3 hc' e0
  go_loopw [7, 8] (fun s i wr => ∃ (k : Nat) (t : List UInt8), k ≤ n ∧ i = .int .i64 k ∧ s = .string ⟨t.toArray⟩ ∧ Hid (t = hd ++ (l.take k).flatMap clT) ∧ Hid (Below w1.heap.size w1 wr)) (fun _ i _ => n - (intOf i).toNat)
  case atStart => exact ⟨0, hd, Nat.zero_le _, rfl, rfl, hid (by simp), HB⟩
  case round =>
    obtain ⟨k, t, hk, rfl, rfl, ht, hbel⟩ := hrel
    by_cases hlt : k < n
    · obtain ⟨b, off, a1, m1, c1, ys, rfl, hcc, hy, hr⟩ := HG.out.at hlt
      have hc1 := (hbel.out.cell (cell_lt hcc)).trans hcc
      have hm2 := hr.out.max
      have HS := hid (lines_step hy.out)
      have HLk : Hid (t.length + (ys.flatMap litT).length + 2 ≤ 100000000000) := by
        show _ ≤ _
        have := HL.out (k + 1)
        rw [HS.out, ← List.append_assoc, ← ht.out, clT] at this
        simp only [List.length_append, List.length_cons, List.length_nil] at this
        omega
      have HC0 := hid hcc
      clear hcc
      go_wp2
      go_loopw [7, 9] (fun s i wr => ∃ (j : Nat) (q : List UInt8), j ≤ m1 ∧ i = .int .i64 j ∧ s = .string ⟨q.toArray⟩ ∧ Hid (q = t ++ (ys.take j).flatMap litT) ∧ Hid (Below w1.heap.size w1 wr)) (fun _ i _ => m1 - (intOf i).toNat)
      case atStart => exact ⟨0, t, Nat.zero_le _, rfl, rfl, hid (by simp), hbel⟩
      case round =>
        clear hc1
        obtain ⟨j, q, hj, rfl, rfl, hq, hbj⟩ := hrel
        have hcj := (hbj.out.cell (cell_lt HC0.out)).trans HC0.out
        have hql : q.length ≤ 100000000000 := by
          have := lits_le ys j
          have := HLk.out
          rw [hq.out, List.length_append]; omega
        by_cases hjt : j < m1
        · obtain ⟨b2, off2, y, rfl, hc2, hz, y0, y1⟩ := (hr.out.keep hbj.out).at hjt
          obtain ⟨f0, f1⟩ := num_half y0 y1
          have HIt : Hid ((itoa (numF y)).length ≤ 21) := Go.Lib.itoa_length_le _ (by omega) (by omega)
          have b1 := add_text q (itoa (numF y)) (by omega) (by have := HIt.out; omega)
          have b2' := add_text (q ++ itoa (numF y)) [32] (by have := HIt.out; rw [List.length_append]; omega) (by decide)
          obtain ⟨q1, hq1⟩ : ∃ q1, Hid (q1 = q ++ itoa (numF y)) := ⟨_, rfl⟩
          rw [← hq1.out] at b1 b2'
          obtain ⟨q2, hq2⟩ : ∃ q2, Hid (q2 = q1 ++ [32]) := ⟨q1 ++ [32], hid rfl⟩
          rw [← hq2.out] at b2'
          have HQ : Hid (q2 = t ++ (ys.take (j + 1)).flatMap litT) := by
            show _ = _; rw [hq2.out, hq1.out, hq.out, lits_step hz.out]; simp
          clear hql
          go_wp2_with (first
            | (go_at_call 18; with_reducible (refine (rnumber_any y _ y1).mono ?_); rintro e w4 ⟨rfl, rfl⟩)
            | (go_at_call 17; with_reducible (refine (rdigits_any (numF y) f0 f1 _).mono ?_); rintro e w5 ⟨rfl, hb5⟩))
          have HB5 := hid (Below.next hbj.out hb5.out)
          go_roundw
          case rel => exact ⟨j + 1, q2, by omega, by go_num, rfl, HQ, HB5⟩
          case measure => simp [intOf]; omega
        · have e : ys.take j = ys := List.take_of_length_le (by rw [hr.out.1]; omega)
          rw [e] at hq
          have b1 := add_text q [48, 10] (by omega) (by decide)
          obtain ⟨q1, hq1⟩ : ∃ q1, Hid (q1 = q ++ [48, 10]) := ⟨q ++ [48, 10], hid rfl⟩
          rw [← hq1.out] at b1
          have HQ : Hid (q1 = hd ++ (l.take (k + 1)).flatMap clT) := by
            show _ = _; rw [hq1.out, hq.out, ht.out, HS.out, clT]; simp
          clear hql e
          go_wp2
          go_roundw
          case rel => exact ⟨k + 1, q1, by omega, by go_num, rfl, HQ, hbj⟩
          case measure => simp [intOf]; omega
    · have e : l.take k = l := List.take_of_length_le (by rw [HN.out]; omega)
      rw [e] at ht
      clear e
      go_wp2
      go_ret2
      exact ⟨by rw [ht.out, HHd.out]; rfl, hbel⟩

end Go.Proofs.YtdhkabppcdnfeaaDoor
