/-
  nots: the Nots of all literals of a clause.
-/
import Derived.Test.YtdkkdfgaponlbaaRup
import Derived.Test.YtdkkdfgaponlbaaCat
import Derived.Laws.MakeOwn
namespace Go.Proofs.Ytdkkdfgaponlbaa
open Go.RowKit
set_option linter.unusedVariables false

theorem fit_not {x : Int} (h0 : -9223372036854775808 ≤ x) (h1 : x ≤ 9223372036854775807) : -9223372036854775808 ≤ notF x ∧ notF x ≤ 9223372036854775807 := by
  by_cases h : 0 ≤ x
  · exact ⟨by have := not_pos h; omega, not_max h h1⟩
  · rw [not_neg (by omega)]; exact ⟨h0, h1⟩

theorem map_next {c : List Int} {k : Nat} {y : Int} (h : c[k]? = some y) : (c.take (k + 1)).map notF = (c.take k).map notF ++ [notF y] := by
  rw [List.take_add_one, h]; simp

theorem make_none (n : Nat) (hn : n ≤ 100000) (w : World) : ∃ w', (Instr.makeSlice 26 (.int .i64 0) (.int .i64 n)).run Try.prog w = .ok (.slice (some ⟨w.heap.size, 0, none⟩) 0 n) w' ∧
    Hid (Own w' w.heap.size (.slice (some ⟨w.heap.size, 0, none⟩) 0 n) []) ∧ Hid (Below w.heap.size w w') := by
  obtain ⟨i0, hi, hz0, hz1, hz2⟩ := info_parts Try.info3
  obtain ⟨w', h1, h2, h3⟩ := run_make_own (P := Try.prog) w w.heap.size 26 3 i0 (.int .i64 0) 1 Try.underlying26 hi hz0 hz1 .i64 .i64 n (by rw [hz2]; omega) (by unfold maxLen; omega) (Nat.le_refl _)
  exact ⟨w', h1, ⟨h2, fun x hx => by simp at hx⟩, (Below.refl _ _).grown h3 (Nat.le_refl _) fun j hj => by cases hj⟩

set_option maxHeartbeats 1000000 in
theorem nots_any (w : World) (a : Option Addr) (n cap : Nat) (c : List Int) (hr : Row w a n cap c) (hn : n ≤ 1000) :
    Calls Try.prog 24 #[.slice a n cap] w fun e w' => ∃ bo k c2, e = .returned (.slice bo k c2) ∧ Hid (k = n) ∧ Hid (Row w' bo k c2 (c.map notF)) ∧ Hid (Below w.heap.size w w') := by
  have HR := hid hr
  clear hr
  obtain ⟨wm, hmk, hom, hbm⟩ := make_none n (by omega) w
  go_enter Try.func24, Try.ntmps24
  go_wp2
  go_loopw [3, 5, 11] (fun v _ i wr => ∃ q : Nat, q ≤ n ∧ i = .int .i64 q ∧ Hid (Own wr w.heap.size v ((c.take q).map notF)) ∧ Hid (Below w.heap.size w wr)) (fun _ _ i _ => n - (intOf i).toNat)
  case atStart => exact ⟨0, Nat.zero_le _, rfl, hom, hbm⟩
  case round =>
    clear hmk
    obtain ⟨q, hq, rfl, hown, hb⟩ := hrel
    by_cases hlt : q < n
    · obtain ⟨b, off, y, rfl, hc, hy, y0, y1⟩ := (HR.out.keep hb.out).at hlt
      have HE := hid (map_next hy.out)
      have HY := hid (fit_not y0 y1)
      have hql : ((c.take q).map notF).length ≤ 1000 := by rw [List.length_map, List.length_take]; omega
      go_wp2_with (first
        | (go_at_call 37; with_reducible (refine (not_any _ _ y1).mono ?_); rintro e w1 ⟨rfl, hb1⟩; have hb2 := Below.next hb.out hb1)
        | (at_builtin; refine append_ints rfl (.tmp 15) (.tmp 18) rfl w.heap.size _ _ [notF y] rfl ((hown.out.keep hb1).alloc _) _ 1 1 rfl (row_one _ _ HY.out.1 HY.out.2) (by omega) (by have := hb2.size; simp; omega) ?_; intro v2 w2 own2 hb3))
      go_roundw
      case rel => exact ⟨q + 1, by omega, by go_num, hid (by rw [HE.out]; exact own2.out), hid ((hb2.alloc hb2.size _).trans hb3.out)⟩
      case measure => simp only [intOf]; omega
    · have HV : Hid (c.take q = c) := hid (List.take_of_length_le (by rw [HR.out.1]; omega))
      obtain ⟨ao, k, c2, rfl, hrow⟩ := hown.out.shape
      go_wp2
      go_ret
      refine ⟨_, _, _, rfl, hid ?_, hid (by rw [← HV.out]; exact hrow.out), hb⟩
      have := hrow.out.1
      rw [HV.out] at this
      have h2 := HR.out.1
      simp at this; omega

end Go.Proofs.Ytdkkdfgaponlbaa
