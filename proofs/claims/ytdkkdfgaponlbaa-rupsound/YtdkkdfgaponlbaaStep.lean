/-
  step, Step: whether a clause follows at once; of the program and of the document.
-/
import Derived.Test.YtdkkdfgaponlbaaRclose
import Derived.Test.YtdkkdfgaponlbaaNegs
namespace Go.Proofs.Ytdkkdfgaponlbaa
open Go.RowKit
set_option linter.unusedVariables false

theorem res_iff {L : List (List Int)} {S xs : List Int} {ok : Bool} (h : Res L S xs ok) : ok = false ↔ Bad L S := by
  rcases h with ⟨rfl, _, h⟩ | ⟨rfl, h, _⟩
  · exact ⟨fun _ => h, fun _ => rfl⟩
  · exact ⟨fun e => (by cases e), fun g => absurd g h⟩

theorem close_b (w : World) (la : Option Addr) (n cap : Nat) (L : List (List Int)) (gr : Grid w la n cap L) (sa : Option Addr) (sn scap : Nat) (S : List Int) (hr : Row w sa sn scap S) (hn : n ≤ 100) (hs : sn ≤ 1000) (hl : ∀ c ∈ L, c.length ≤ 100) :
    Calls Try.prog 23 #[.slice la n cap, .slice sa sn scap] w fun e w' => ∃ (ao : Option Addr) (m c : Nat) (ok : Bool), e = .returned (.tuple #[.slice ao m c, .bool ok]) ∧ Hid (ok = false ↔ Bad L S) ∧ Hid (Below w.heap.size w w') := by
  refine (close_any w la n cap L gr sa sn scap S hr hn (by omega) (fun c hc => by have := hl c hc; omega)).mono fun e w' he => ?_
  obtain ⟨ao, m, c, xs, ok, h1, h2, h3, h4⟩ := he
  exact ⟨ao, m, c, ok, h1, res_iff h3, h4⟩

theorem rclose_b (w : World) (la : Option Addr) (n cap : Nat) (L : List (List Int)) (gr : Grid w la n cap L) (sa : Option Addr) (sn scap : Nat) (S : List Int) (hr : Row w sa sn scap S) (hn : n ≤ 100) (hs : sn ≤ 1000) (hl : ∀ c ∈ L, c.length ≤ 100) :
    Calls Try.prog 18 #[.slice la n cap, .slice sa sn scap] w fun e w' => ∃ (ao : Option Addr) (m c : Nat) (ok : Bool), e = .returned (.tuple #[.slice ao m c, .bool ok]) ∧ Hid (ok = false ↔ Bad L S) ∧ Hid (Below w.heap.size w w') := by
  refine (rclose_any w la n cap L gr sa sn scap S hr hn hs hl).mono fun e w' he => ?_
  obtain ⟨ao, m, c, xs, ok, h1, h2, h3, h4⟩ := he
  exact ⟨ao, m, c, ok, h1, res_iff h3, h4⟩

theorem flip_iff {ok : Bool} {p : Prop} (h : ok = false ↔ p) : (!ok) = true ↔ p := by
  rw [← h]; cases ok <;> simp

set_option maxHeartbeats 1000000 in
theorem step_any (w : World) (ca : Option Addr) (m ccap : Nat) (c : List Int) (hr : Row w ca m ccap c) (la : Option Addr) (n cap : Nat) (L : List (List Int)) (gr : Grid w la n cap L) (hm : m ≤ 1000) (hn : n ≤ 100) (hl : ∀ c ∈ L, c.length ≤ 100) :
    Calls Try.prog 16 #[.slice ca m ccap, .slice la n cap] w fun e w' => ∃ b : Bool, e = .returned (.bool b) ∧ Hid (b = true ↔ Stp L c) ∧ Hid (Below w.heap.size w w') := by
  have HR := hid hr
  have HG := hid gr
  have HL := hid hl
  clear hr gr hl
  go_enter Try.func16, Try.ntmps16
  go_wp2_with (first
    | (go_at_call 24; with_reducible (refine (nots_any w ca m ccap c HR.out hm).mono ?_); rintro e w1 ⟨bo, k, c2, rfl, hk, hrow, hb1⟩; have hk2 : k ≤ 1000 := hk.out ▸ hm)
    | (go_at_call 23; with_reducible (refine (close_b _ la n cap L (HG.out.keep hb1.out) bo k c2 _ hrow.out hn hk2 HL.out).mono ?_); rintro e w2 ⟨ao, m3, c3, ok, rfl, hiff, hb2⟩))
  go_ret
  exact ⟨_, rfl, flip_iff hiff.out, Below.next hb1.out hb2.out⟩

theorem stepP_any (w : World) (la : Option Addr) (n cap : Nat) (L : List (List Int)) (gr : Grid w la n cap L) (ca : Option Addr) (m ccap : Nat) (c : List Int) (hr : Row w ca m ccap c) (hm : m ≤ 1000) (hn : n ≤ 100) (hl : ∀ c ∈ L, c.length ≤ 100) :
    Calls Try.prog 7 #[.slice la n cap, .slice ca m ccap] w fun e w' => ∃ b : Bool, e = .returned (.bool b) ∧ Hid (b = true ↔ Stp L c) ∧ Hid (Below w.heap.size w w') := by
  have HR := hid hr
  have HG := hid gr
  have HL := hid hl
  clear hr gr hl
  go_enter Try.func7, Try.ntmps7
  go_wp2_with (go_at_call 16; with_reducible (refine (step_any w ca m ccap c HR.out la n cap L HG.out hm hn HL.out).mono ?_); rintro e w1 ⟨b, rfl, hiff, hb⟩)
  go_ret
  exact ⟨_, rfl, hiff, hb⟩

set_option maxHeartbeats 1000000 in
theorem rstep_any (w : World) (la : Option Addr) (n cap : Nat) (L : List (List Int)) (gr : Grid w la n cap L) (ca : Option Addr) (m ccap : Nat) (c : List Int) (hr : Row w ca m ccap c) (hm : m ≤ 1000) (hn : n ≤ 100) (hl : ∀ c ∈ L, c.length ≤ 100) :
    Calls Try.prog 8 #[.slice la n cap, .slice ca m ccap] w fun e w' => ∃ b : Bool, e = .returned (.bool b) ∧ Hid (b = true ↔ Stp L c) ∧ Hid (Below w.heap.size w w') := by
  have HR := hid hr
  have HG := hid gr
  have HL := hid hl
  clear hr gr hl
  go_enter Try.func8, Try.ntmps8
  go_wp2
  go_loopw [5, 6] (fun v i wr => ∃ q : Nat, q ≤ m ∧ i = .int .i64 q ∧ Hid (Own wr w.heap.size v ((c.take q).map notF)) ∧ Hid (Below w.heap.size w wr)) (fun _ i _ => m - (intOf i).toNat)
  case atStart => exact ⟨0, Nat.zero_le _, rfl, Own.nil _ _, Below.refl _ _⟩
  case round =>
    obtain ⟨q, hq, rfl, hown, hb⟩ := hrel
    by_cases hlt : q < m
    · obtain ⟨b, off, y, rfl, hc, hy, y0, y1⟩ := (HR.out.keep hb.out).at hlt
      have HE := hid (map_next hy.out)
      have HY := hid (fit_not y0 y1)
      have hql : ((c.take q).map notF).length ≤ 1000 := by rw [List.length_map, List.length_take]; omega
      go_wp2_with (first
        | (go_at_call 17; with_reducible (refine (rnot_any _ _ y1).mono ?_); rintro e w1 ⟨rfl, rfl⟩)
        | (at_builtin; refine append_ints rfl (.tmp 15) (.tmp 21) rfl w.heap.size _ _ [notF y] rfl (hown.out.alloc _) _ 1 1 rfl (row_one _ _ HY.out.1 HY.out.2) (by omega) (by have := hb.out.size; simp; omega) ?_; intro v2 w2 own2 hb3))
      go_roundw
      case rel => exact ⟨q + 1, by omega, by go_num, hid (by rw [HE.out]; exact own2.out), hid ((hb.out.alloc hb.out.size _).trans hb3.out)⟩
      case measure => simp only [intOf]; omega
    · have HV : Hid (c.take q = c) := hid (List.take_of_length_le (by rw [HR.out.1]; omega))
      obtain ⟨ao, k, c2, rfl, hrow⟩ := hown.out.shape
      have hrow2 : Hid (Row wr ao k c2 (c.map notF)) := hid (by rw [← HV.out]; exact hrow.out)
      have hk : k ≤ 1000 := by
        have := hrow2.out.1
        have h2 := HR.out.1
        simp at this; omega
      clear hrow hown
      go_wp2_with (go_at_call 18; with_reducible (refine (rclose_b _ la n cap L (HG.out.keep hb.out) ao k c2 _ hrow2.out hn hk HL.out).mono ?_); rintro e w2 ⟨ao3, m3, c3, ok, rfl, hiff, hb2⟩)
      go_ret
      exact ⟨_, rfl, flip_iff hiff.out, Below.next hb.out hb2.out⟩

end Go.Proofs.Ytdkkdfgaponlbaa
