/-
  The document's New, Is, Add.
-/
import Derived.Test.YtbfaigeopkonbaaWRef
namespace Go.Proofs.Ytbfaigeopkonbaa
open Go.RowKit Go.Maps
set_option linter.unusedVariables false

theorem wrnew_any (n : Int) (w : World) : Calls Try.prog 10 #[.int .i64 n] w fun e w' => e = .returned (wv (cntF n) (.slice none 0 0) (.slice none 0 0)) ∧ Hid (Below w.heap.size w w') := by
  by_cases h0 : n < 0
  · have HC : Hid (cntF n = 0) := hid (by simp [cntF, h0])
    go_enter Try.func10, Try.ntmps10
    go_wp2
    refine bodyPost_ret (wresults_box rfl _ _ w.heap.size (.int .i64 0) (.slice none 0 0) (.slice none 0 0) rfl (by simp [go_sem]) (by simp [go_sem]) (by simp [go_sem])) rfl ?_
    exact ⟨by rw [HC.out]; rfl, hid (by go_grown)⟩
  · by_cases h1 : 1048576 < n
    · have HC : Hid (cntF n = 0) := hid (by simp [cntF, h1])
      go_enter Try.func10, Try.ntmps10
      go_wp2
      refine bodyPost_ret (wresults_box rfl _ _ w.heap.size (.int .i64 0) (.slice none 0 0) (.slice none 0 0) rfl (by simp [go_sem]) (by simp [go_sem]) (by simp [go_sem])) rfl ?_
      exact ⟨by rw [HC.out]; rfl, hid (by go_grown)⟩
    · obtain ⟨m, rfl⟩ : ∃ m : Nat, n = m := ⟨n.toNat, by omega⟩
      have HC : Hid (cntF m = m) := hid (by simp only [cntF]; rw [if_neg (by omega)]; omega)
      have h1d : decide ((1048576 : Int) < m) = false := by simp; omega
      go_enter Try.func10, Try.ntmps10
      go_wp2
      refine bodyPost_ret (wresults_box rfl _ _ w.heap.size (.int .i64 m) (.slice none 0 0) (.slice none 0 0) rfl (by simp [go_sem]) (by simp [go_sem]) (by simp [go_sem])) rfl ?_
      exact ⟨by rw [HC.out]; rfl, hid (by go_grown)⟩

/-- Is it there? -/
def isT (ths : List Bool) (x : Int) : Bool := decide (0 ≤ x ∧ x < ths.length) && ths.getD x.toNat false

section
variable {w0 w : World} {la ta : Value} {xss : List (List Int)} {ths : List Bool} {n : Nat}

theorem ris_any (r : RW w0 w la ta xss ths) (x : Int) {b : Bool} (hb : isT ths x = b) : Calls Try.prog 34 #[.agg #[.int .i64 n, la, ta], .int .i64 x] w fun e w' => e = .returned (.bool b) ∧ Hid (Below w.heap.size w w') := by
  obtain ⟨a, c, a', c', rfl, rfl, h1, h2, h3, h4⟩ := r.shape
  have hl := r.ln
  by_cases h0 : x < 0
  · have hd : decide (0 ≤ x) = false := by simp; omega
    obtain rfl : b = false := by rw [← hb]; simp [isT]; omega
    clear r
    go_enter Try.func34, Try.ntmps34
    go_wp2
    go_ret
    exact ⟨rfl, hid (by go_grown)⟩
  · have hd : decide (0 ≤ x) = true := by simp; omega
    have h0' : (0 : Int) ≤ x := by omega
    by_cases hx : x < xss.length
    · obtain ⟨i, rfl⟩ : ∃ i : Nat, x = i := ⟨x.toNat, by omega⟩
      have hi : i < xss.length := by omega
      obtain ⟨bb, rfl, hc⟩ := r.tr hi
      have hb' : ths.getD i false = b := by
        rw [← hb]; simp only [isT, Int.toNat_natCast]
        have : decide (0 ≤ (i : Int) ∧ (i : Int) < ths.length) = true := by simp; omega
        rw [this]; rfl
      rw [hb'] at hc
      have hlt := cell_lt hc
      have hc' : (w.alloc (.cells #[.int .i64 n, .slice a xss.length c, .slice (some ⟨bb, 0, none⟩) xss.length c'] 32)).cell? ⟨bb, i, none⟩ = some (.bool b) := (World.cell?_of_block ((grown_new w _ none).block bb hlt (by simp))).trans hc
      clear r hb hb'
      go_enter Try.func34, Try.ntmps34
      go_wp2
      go_ret
      exact ⟨rfl, hid (by go_grown)⟩
    · have hxd : decide (x < (xss.length : Int)) = false := by simp; omega
      obtain rfl : b = false := by rw [← hb]; simp [isT]; omega
      clear r
      go_enter Try.func34, Try.ntmps34
      go_wp2
      go_ret
      exact ⟨rfl, hid (by go_grown)⟩

theorem Row0.at {a : Option Addr} {m c : Nat} {xs : List Int} (row : U.Row w0 a m c xs) (b : Below w0.heap.size w0 w) : U.Row w a m c xs := row.keep b

set_option maxHeartbeats 2000000 in
theorem radd_no (r : RW w0 w la ta xss ths) (b0 : Below w0.heap.size w0 w) {a1 : Option Addr} {m1 c1 : Nat} {xs : List Int} (row : U.Row w0 a1 m1 c1 xs) (hm : m1 ≤ 12) (hn : n ≤ 1048576) (hx : ¬ ∀ x ∈ xs, 0 ≤ x ∧ x < 2 * (n : Int)) :
    Calls Try.prog 26 #[.agg #[.int .i64 n, la, ta], .slice a1 m1 c1] w fun e w' => e = .returned (.tuple #[.agg #[.int .i64 n, la, ta], .int .i64 0, .int .i64 10]) ∧ Hid (Below w.heap.size w w') := by
  obtain ⟨a, c, a', c', rfl, rfl, h1, h2, h3, h4⟩ := r.shape
  have HR := hid (row.keep b0)
  have HX := hid hx
  clear row hx r
  have hb : Hid (Below w.heap.size w ((w.alloc (.cells #[.int .i64 n, .slice a xss.length c, .slice a' xss.length c'] 32)).alloc (.cells #[.int .i64 0, .slice none 0 0, .slice none 0 0] 32))) := hid (by go_grown)
  go_enter Try.func26, Try.ntmps26
  go_wp2
  generalize hW : ((w.alloc (.cells #[.int .i64 n, .slice a xss.length c, .slice a' xss.length c'] 32)).alloc (.cells #[.int .i64 0, .slice none 0 0, .slice none 0 0] 32)) = W
  have HW := hid hW
  clear hW
  go_loopw [7] (fun i wr => ∃ q : Nat, q ≤ m1 ∧ i = .int .i64 q ∧ Hid (Below W.heap.size W wr) ∧ Hid (∀ j y, j < q → xs[j]? = some y → 0 ≤ y ∧ y < 2 * (n : Int))) (fun i _ => m1 - (intOf i).toNat)
  case atStart => exact ⟨0, Nat.zero_le _, rfl, hid (Below.refl _ _), hid (fun j y h => by omega)⟩
  case round =>
    obtain ⟨q, hq, rfl, hb, hall⟩ := hrel
    have hB := hb.out
    rw [← HW.out] at hB
    obtain ⟨k1, k2, b4⟩ := wtwo_boxes hB
    have k3 := wbox_cells k1
    obtain ⟨⟨d0, d1, d2⟩, d3, d4, d5⟩ := k3
    have k4 := wbox_cells k2
    obtain ⟨⟨r0, r1, r2⟩, r3, r4, r5⟩ := k4
    have HB4 := hid b4
    clear hB b4
    by_cases hlt : q < m1
    · have hlt' : (q : Int) < m1 := by omega
      obtain ⟨bb, off, y, rfl, hc, hy, y0, y1⟩ := (HR.out.keep HB4.out).at hlt
      have HY := hid hy
      clear hy
      by_cases hneg : y < 0
      · have hnd : decide (y < 0) = true := by simpa using hneg
        go_wp2
        go_region
        all_goals go_wp2
        all_goals refine bodyPost_ret (wresults_box3 rfl _ _ (w.heap.size + 1) (.int .i64 n) (.slice a xss.length c) (.slice a' xss.length c') rfl (by simp [go_sem, r0]) (by simp [go_sem, r1]) (by simp [go_sem, r2])) rfl ?_
        all_goals exact ⟨rfl, hid (wput3_below (Below.next HB4.out (below_drew wr)) (by omega) _ _ _)⟩
      · have hnd : decide (y < 0) = false := by simpa using hneg
        have hneg' : ¬ y < 0 := hneg
        obtain ⟨v, hv⟩ : ∃ v : Nat, y / 2 = v := ⟨(y / 2).toNat, by omega⟩
        have hdv : y.tdiv 2 = (v : Int) := by rw [Int.tdiv_eq_ediv_of_nonneg (by omega)]; exact hv
        have hvb : (v : Int) ≤ 9223372036854775807 := by omega
        by_cases hge : n ≤ v
        · have hge' : (n : Int) ≤ v := by omega
          clear hv
          go_wp2
          go_region
          all_goals go_wp2
          all_goals refine bodyPost_ret (wresults_box3 rfl _ _ (w.heap.size + 1) (.int .i64 n) (.slice a xss.length c) (.slice a' xss.length c') rfl (by simp [go_sem, r0]) (by simp [go_sem, r1]) (by simp [go_sem, r2])) rfl ?_
          all_goals exact ⟨rfl, hid (wput3_below (Below.next HB4.out (below_drew wr)) (by omega) _ _ _)⟩
        · have hge' : ¬ (n : Int) ≤ v := by omega
          have hged : decide (n ≤ v) = false := by simpa using hge
          have HY2 : Hid (0 ≤ y ∧ y < 2 * (n : Int)) := hid (by omega)
          clear hv
          go_wp2
          go_region
          all_goals go_wp2
          all_goals go_roundw
          all_goals first
            | exact ⟨q + 1, by omega, by go_num, hid (Below.next hb.out (below_drew wr)), hid (fun j z hj hz => by
                by_cases e : j = q
                · subst e; rw [HY.out.out] at hz; cases hz; exact HY2.out
                · exact hall.out j z (by omega) hz)⟩
            | (simp only [intOf]; omega)
    · exact absurd (fun x hx => by
        obtain ⟨j, hj⟩ := List.mem_iff_getElem?.1 hx
        have := (List.getElem?_eq_some_iff.1 hj).1
        have := HR.out.1
        exact hall.out j x (by omega) hj) HX.out
end

end Go.Proofs.Ytbfaigeopkonbaa
