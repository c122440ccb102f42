/-
  Show.
-/
import Derived.Test.YtefielnmlekhaaaDoorTt
namespace Go.Proofs.YtefielnmlekhaaaDoor
open Go.RowKit
open Go.Lib (decDigits itoa byteCells)
set_option linter.unusedVariables false
set_option maxRecDepth 20000

/-- What Show tells: a text, an error's number. -/
def shS (N : List Nd) (i : Int) : List UInt8 := if isN N i = true ∧ (TX N i).length ≤ 4096 then TX N i else []
def shE (N : List Nd) (i : Int) : Int := if isN N i = true then (if (TX N i).length ≤ 4096 then 0 else 8) else 11

theorem TX_pos {N : List Nd} (r : Wl N) (g : Gd N) {i : Nat} (hi : i < N.length) : 0 < (TX N i).length := by
  by_cases h0 : (ndA N i).op = 20
  · rw [TX_const r g hi h0]; simp; omega
  · by_cases h1 : (ndA N i).op = 21
    · rw [TX_var r g hi h1]; simp
    · rw [TX_made r g hi h0 h1]; simp; omega

theorem term_yes {k : K} {w : World} {x y : Addr} {N : List Nd} {P : Nat → Prop} (hE : Env w x y) (hD : Dg k w N P) (r : Wl N) {i : Nat} (hi : i < N.length) (hl : (TX N i).length ≤ 4096) :
    Calls Tryd.prog 20 #[.slice none 0 0, .pointer (some ⟨k.DB, 0, none⟩), .int .i64 i] w fun e w' => ∃ (q : Nat) (c : Nat), e = .returned (.tuple #[.slice (some ⟨q, 0, none⟩) (TX N i).length c, .nilIface]) ∧
      (convert 51 9 (.slice (some ⟨q, 0, none⟩) (TX N i).length c)).run Tryd.prog w' = .ok (.string ⟨(TX N i).toArray⟩) w' ∧ Hid (Below w.heap.size w w') := by
  refine ((term_ok hE hD r i hi).run (Buf.nil w) (by simp)).mono fun e w' q => ?_
  rcases q with ⟨_, v', rfl, b, _⟩ | ⟨q, _⟩
  · have b' : Buf w w' v' (TX N i) := by have := b.out; simpa using this
    obtain ⟨q, c, rfl, hc⟩ := buf_string b' (TX_pos r hD.1 hi)
    exact ⟨q, c, rfl, hc, b'.2⟩
  · simp at q; omega
theorem term_not {k : K} {w : World} {x y : Addr} {N : List Nd} {P : Nat → Prop} (hE : Env w x y) (hD : Dg k w N P) (r : Wl N) {i : Nat} (hi : i < N.length) (hl : ¬ (TX N i).length ≤ 4096) :
    Calls Tryd.prog 20 #[.slice none 0 0, .pointer (some ⟨k.DB, 0, none⟩), .int .i64 i] w fun e w' => e = .returned (.tuple #[.slice none 0 0, .iface 125 (.pointer (some y))]) ∧ Hid (Below w.heap.size w w') := by
  refine ((term_ok hE hD r i hi).run (Buf.nil w) (by simp)).mono fun e w' q => ?_
  rcases q with ⟨q, _⟩ | ⟨_, rfl, b, _⟩
  · simp at q; omega
  · exact ⟨rfl, b⟩

set_option maxHeartbeats 8000000 in
theorem term_off {k : K} {w : World} {x y : Addr} {N : List Nd} {P : Nat → Prop} (hE : Env w x y) (hD : Dg k w N P) {i : Int} (hi : isN N i = false) :
    Calls Tryd.prog 20 #[.slice none 0 0, .pointer (some ⟨k.DB, 0, none⟩), .int .i64 i] w fun e w' => e = .returned (.tuple #[.slice none 0 0, .iface 125 (.pointer (some x))]) ∧ Hid (Below w.heap.size w w') := by
  have HE := hid hE
  have HD := hid hD
  have HI := hid hi
  clear hE hD hi
  go_enter Tryd.func20, Tryd.ntmps20
  go_upto_region 3 with (go_at_call 42; with_reducible (refine (node_off HD.out HI.out).mono ?_); rintro e w1 ⟨rfl, b1⟩)
  have BB : Hid (Below w.heap.size w (w1.alloc (.cells #[.int .i64 0, .int .i64 0, .int .i64 0, .int .i64 0, .int .i64 0, .int .u64 0] 63))) := hid (Below.next b1.out (new_b _ _))
  have c0 := (HE.out.keep BB.out).e0
  go_quiet (fail)
  go_wp2_with fail
  go_ret2
  exact ⟨rfl, hid (BB.out.trans ⟨rfl, rfl, rfl, Nat.le_refl _, fun _ _ => rfl⟩)⟩

set_option maxHeartbeats 8000000 in
theorem show_any {k : K} {w : World} {x y : Addr} {N : List Nd} {P : Nat → Prop} (hE : Env w x y) (hD : Dg k w N P) (r : Wl N) (i : Int) :
    Calls Tryd.prog 7 #[.pointer (some ⟨k.DB, 0, none⟩), .int .i64 i] w fun e w' => e = .returned (.tuple #[.string ⟨(shS N i).toArray⟩, .int .i64 (shE N i)]) ∧ Hid (Below w.heap.size w w') := by
  have HE := hid hE
  have HD := hid hD
  obtain ⟨cx, tx, ex⟩ := hE.bx
  obtain ⟨cy, ty, ey⟩ := hE.by_
  have hne := hE.ne
  cases hi : isN N i
  · have HI := hid hi
    have HS : Hid (shS N i = [] ∧ shE N i = 11) := hid (by simp [shS, shE, hi])
    rw [HS.out.1, HS.out.2]
    clear hi hE hD HS ex ey
    go_enter Tryd.func7, Tryd.ntmps7
    go_wp2_with (first
      | (go_at_call 20; with_reducible (refine (term_off HE.out HD.out HI.out).mono ?_); rintro e w1 ⟨rfl, b1⟩; have c0 := (HE.out.keep b1.out).e0)
      | (go_at_call 21; with_reducible (refine (is_same x _).mono ?_); rintro e w1 ⟨rfl, rfl⟩))
    go_ret2
    exact ⟨rfl, b1⟩
  · obtain ⟨i, rfl, hl⟩ := isN_yes hi
    by_cases hle : (TX N i).length ≤ 4096
    · have HS : Hid (shS N i = TX N i ∧ shE N i = 0) := hid (by simp [shS, shE, hi, hle])
      rw [HS.out.1, HS.out.2]
      have HLe := hid hle
      clear hi hE hD HS ex ey hle
      go_enter Tryd.func7, Tryd.ntmps7
      go_wp2_with (first
        | (go_at_call 20; with_reducible (refine (term_yes HE.out HD.out r hl HLe.out).mono ?_); rintro e w1 ⟨q, c, rfl, hc, b1⟩; have c0 := (HE.out.keep b1.out).e0; have c1 := (HE.out.keep b1.out).e1)
        | (go_at_call 21; with_reducible (refine (is_nil _ _).mono ?_); rintro e w1 ⟨rfl, rfl⟩))
      go_ret2
      exact ⟨rfl, b1⟩
    · have HS : Hid (shS N i = [] ∧ shE N i = 8) := hid (by simp [shS, shE, hi, hle])
      rw [HS.out.1, HS.out.2]
      have HLe := hid hle
      clear hi hE hD HS hle
      go_enter Tryd.func7, Tryd.ntmps7
      go_wp2_with (first
        | (go_at_call 20; with_reducible (refine (term_not HE.out HD.out r hl HLe.out).mono ?_); rintro e w1 ⟨rfl, b1⟩; have c0 := (HE.out.keep b1.out).e0; have c1 := (HE.out.keep b1.out).e1; have fx := (b1.out.block _ (blk_lt ex)).trans ex; have fy := (b1.out.block _ (blk_lt ey)).trans ey)
        | (go_at_call 21; first
          | (with_reducible (refine (is_same y _).mono ?_); rintro e w1 ⟨rfl, rfl⟩)
          | (with_reducible (refine (is_other y x cy cx ty tx _ hne.symm fy fx).mono ?_); rintro e w1 ⟨rfl, rfl⟩)))
      go_ret2
      exact ⟨rfl, b1⟩

end Go.Proofs.YtefielnmlekhaaaDoor
