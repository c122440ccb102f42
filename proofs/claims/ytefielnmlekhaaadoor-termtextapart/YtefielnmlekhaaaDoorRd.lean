/-
  The document's words, digits, parts.
-/
import Derived.Test.YtefielnmlekhaaaDoorTw
namespace Go.Proofs.YtefielnmlekhaaaDoor
open Go.RowKit
open Go.Lib (decDigits itoa byteCells)
set_option linter.unusedVariables false
set_option maxRecDepth 20000

theorem str_app (a b : List UInt8) : (⟨a.toArray⟩ : ByteArray) ++ ⟨b.toArray⟩ = ⟨(a ++ b).toArray⟩ := by
  apply ByteArray.ext
  rw [ByteArray.data_append]
  simp
/-- Two texts, one behind the other. -/
theorem add_text (x y : List UInt8) (hx : x.length ≤ 1000000000000) (hy : y.length ≤ 1000000000000) (W : World) : (Op.stringOp .add ⟨x.toArray⟩ ⟨y.toArray⟩).run Tryd.prog W = .ok (.string ⟨(x ++ y).toArray⟩) W := by
  rw [run_string_add_sum W _ _ (by show x.length + y.length ≤ _; omega), str_app]

/-! ### Word -/
def wdsV : List Value := wdsL.map fun s => Value.string ⟨s.toArray⟩

set_option maxHeartbeats 4000000 in
theorem rword_any (op : Int) (w : World) : Calls Tryd.prog 10 #[.int .i64 op] w fun e w' => e = .returned (.string ⟨(wordF op).toArray⟩) ∧ Hid (Below w.heap.size w w') := by
  have hV : wdsV.toArray = #[.string ⟨#[]⟩, .string ⟨#[97, 100, 100]⟩, .string ⟨#[115, 117, 98]⟩, .string ⟨#[109, 117, 108]⟩, .string ⟨#[117, 100, 105, 118]⟩, .string ⟨#[117, 114, 101, 109]⟩, .string ⟨#[97, 110, 100]⟩, .string ⟨#[111, 114]⟩, .string ⟨#[120, 111, 114]⟩, .string ⟨#[115, 104, 108]⟩, .string ⟨#[115, 104, 114]⟩, .string ⟨#[115, 97, 114]⟩, .string ⟨#[101, 113]⟩, .string ⟨#[117, 108, 116]⟩, .string ⟨#[115, 108, 116]⟩, .string ⟨#[110, 111, 116]⟩, .string ⟨#[110, 101, 103]⟩, .string ⟨#[]⟩, .string ⟨#[]⟩, .string ⟨#[]⟩, .string ⟨#[]⟩, .string ⟨#[]⟩, .string ⟨#[105, 116, 101]⟩, .string ⟨#[101, 120, 116]⟩, .string ⟨#[99, 97, 116]⟩, .string ⟨#[122, 101, 120, 116]⟩, .string ⟨#[115, 101, 120, 116]⟩] := rfl
  by_cases h0 : op < 0
  · have HW : Hid (wordF op = []) := hid (by simp [wordF, h0])
    go_enter Tryd.func10, Tryd.ntmps10
    go_wp2
    go_ret
    exact ⟨by rw [HW.out]; rfl, hid (by go_grown)⟩
  · obtain ⟨i, rfl⟩ := Int.eq_ofNat_of_zero_le (show 0 ≤ op by omega)
    by_cases h1 : i < 27
    · have h1' : ¬ (27 : Int) ≤ i := by omega
      have HW := hid (word_nat (i := i))
      have hc : (w.alloc (.cells wdsV.toArray 9)).cell? ⟨w.heap.size, i, none⟩ = some (.string ⟨(wdsL.getD i []).toArray⟩) := by
        rw [cell_of (new_same w _)]
        have hl : i < wdsL.length := by simpa [wdsL] using h1
        simp [wdsV, hl]
      rw [hV] at hc
      obtain ⟨s, hs⟩ : ∃ s, Hid (s = wdsL.getD i []) := ⟨_, rfl⟩
      rw [← hs.out] at hc HW
      clear h0 hV
      go_enter Tryd.func10, Tryd.ntmps10
      go_wp2
      go_ret
      exact ⟨by rw [HW.out]; rfl, hid (by go_grown)⟩
    · have h1' : (27 : Int) ≤ i := by omega
      have HW : Hid (wordF (i : Int) = []) := hid (by rw [word_nat, List.getD_eq_getElem?_getD, List.getElem?_eq_none (by simp [wdsL]; omega)]; rfl)
      clear h0 hV
      go_enter Tryd.func10, Tryd.ntmps10
      go_wp2
      go_ret
      exact ⟨by rw [HW.out]; rfl, hid (by go_grown)⟩

/-! ### digits -/
theorem dig_of {k : Nat} (h : k < 10) : (UInt8.ofNat (48 + k)).toNat = 48 + k := by rw [UInt8.toNat_ofNat']; omega
/-- A digit as a text. -/
def d1 (y : Int) : List UInt8 := [UInt8.ofNat (48 + y.toNat)]
/-- One byte as a text. -/
theorem one_text (W : World) (g : Nat) (y : Int) (h0 : 0 ≤ y) (h1 : y < 10) (hc : W.cell? ⟨g, 0, none⟩ = some (.int .u8 (48 + y))) : (convert 51 9 (.slice (some ⟨g, 0, none⟩) 1 1)).run Tryd.prog W = .ok (.string ⟨(d1 y).toArray⟩) W := by
  refine run_convert_bytes_back (P := Tryd.prog) W 51 9 5 ⟨g, 0, none⟩ 1 [UInt8.ofNat (48 + y.toNat)] Tryd.underlying51 Tryd.underlying5 Tryd.underlying9 (fun j hj => ?_)
  obtain rfl : j = 0 := by simp at hj; omega
  have e : (UInt8.ofNat (48 + y.toNat)).toNat = 48 + y.toNat := dig_of (by omega)
  simp only [List.getElem_cons_zero, e]
  rw [Go.Lib.add_plain, hc]
  congr 2; omega
theorem u8_small {y : Int} (h0 : 0 ≤ y) (h1 : y < 10) : IntKind.u8.wrap (48 + y) = 48 + y := by
  simp only [IntKind.wrap, IntKind.signed, IntKind.bits]; simp; omega

theorem u64_fit' {y : Int} (h0 : 0 ≤ y) (h1 : y < 18446744073709551616) : IntKind.u64.wrap y = y := by rw [IntKind.wrap_u64]; omega
theorem dgs_small {z : Int} (h0 : 0 ≤ z) (h : z < 10) : dgs z = d1 z := by
  unfold dgs d1; exact Go.Lib.decDigits_one (by omega)
theorem dgs_big {z : Int} (h0 : 0 ≤ z) (h : ¬ z < 10) : dgs z = dgs (z / 10) ++ d1 (z % 10) := by
  unfold dgs d1
  have e : decDigits z.toNat = decDigits (z.toNat / 10) ++ [UInt8.ofNat (48 + z.toNat % 10)] := by rw [decDigits, dif_neg (by omega)]
  rw [e, show z.toNat / 10 = (z / 10).toNat by omega, show z.toNat % 10 = (z % 10).toNat by omega]

set_option maxHeartbeats 4000000 in
theorem rdigits_any (x : Int) (h0 : 0 ≤ x) (h1 : x < 18446744073709551616) (w : World) : Calls Tryd.prog 48 #[.int .u64 x] w fun e w' => e = .returned (.string ⟨(dgs x).toArray⟩) ∧ Hid (Below w.heap.size w w') := by
  have HL := hid (dgs_len h1)
  have H0 := hid h0
  have H1 := hid h1
  clear h0 h1
  go_enter Tryd.func48, Tryd.ntmps48
  go_wp2
  go_loopw [0, 3] (fun n s wr => ∃ (z : Int) (t : List UInt8), 0 ≤ z ∧ z < 18446744073709551616 ∧ n = .int .u64 z ∧ s = .string ⟨t.toArray⟩ ∧ Hid (dgs z ++ t = dgs x) ∧ Hid (Below w.heap.size w wr)) (fun n _ _ => (intOf n).toNat)
  case atStart => exact ⟨x, [], H0.out, H1.out, rfl, rfl, hid (by simp), hid (Below.refl _ _)⟩
  case round =>
    obtain ⟨z, t, z0, z1, rfl, rfl, ht, hb⟩ := hrel
    have lt : t.length ≤ 20 := by
      have e := HL.out
      rw [← ht.out, List.length_append] at e
      omega
    by_cases h : z < 10
    · have h' : ¬ 10 ≤ z := by omega
      have hcv := one_text (wr.alloc (.cells #[.int .u8 (48 + z)] 5)) wr.heap.size z z0 h (by simp)
      have hw := u8_small z0 h
      have hw2 := u64_fit' (show 0 ≤ 48 + z by omega) (show 48 + z < 18446744073709551616 by omega)
      have hadd := add_text (d1 z) t (by show 1 ≤ _; omega) (by omega)
      have HE := hid (dgs_small z0 h)
      clear lt
      go_wp2
      go_ret
      exact ⟨by rw [← ht.out, HE.out]; rfl, hid (Below.next hb.out (by go_grown))⟩
    · have h' : 10 ≤ z := by omega
      have m0 : 0 ≤ z % 10 := by omega
      have m1 : z % 10 < 10 := by omega
      have hcv := one_text (wr.alloc (.cells #[.int .u8 (48 + z % 10)] 5)) wr.heap.size (z % 10) m0 m1 (by simp)
      have hw := u8_small m0 m1
      have hw2 := u64_fit' (show 0 ≤ 48 + z % 10 by omega) (show 48 + z % 10 < 18446744073709551616 by omega)
      have hadd := add_text (d1 (z % 10)) t (by show 1 ≤ _; omega) (by omega)
      have HE := hid (dgs_big z0 h)
      have tq : z.tdiv 10 = z / 10 := Int.tdiv_eq_ediv_of_nonneg z0
      have tr : z.tmod 10 = z % 10 := Int.tmod_eq_emod_of_nonneg z0
      have hw3 := u64_fit' (show 0 ≤ z / 10 by omega) (show z / 10 < 18446744073709551616 by omega)
      clear lt
      go_wp2
      go_roundw
      case rel => exact ⟨z / 10, d1 (z % 10) ++ t, by omega, by omega, by go_num, rfl, hid (by rw [← List.append_assoc, ← HE.out]; exact ht.out), hid (Below.next hb.out (by go_grown))⟩
      case measure => simp only [intOf]; omega

theorem rnumber_any (x : Int) (h0 : 0 ≤ x) (h1 : x ≤ 9223372036854775807) (w : World) : Calls Tryd.prog 49 #[.int .i64 x] w fun e w' => e = .returned (.string ⟨(dgs x).toArray⟩) ∧ Hid (Below w.heap.size w w') := by
  have hw := u64_fit' h0 (show x < 18446744073709551616 by omega)
  go_enter Tryd.func49, Tryd.ntmps49
  go_wp2_with (go_at_call 48; with_reducible (refine (rdigits_any x h0 (by omega) _).mono ?_); rintro e w1 ⟨rfl, b1⟩)
  go_ret
  exact ⟨rfl, b1⟩

end Go.Proofs.YtefielnmlekhaaaDoor
