/-
  settle: the one literal of a clause that may hold.
-/
import Derived.Test.YtdkkdfgaponlbaaTake
namespace Go.Proofs.Ytdkkdfgaponlbaa
open Go.RowKit Go.Maps
set_option linter.unusedVariables false

theorem take_yes (k : K) (fst : Int → Int) (us : List (Int × Int)) (op H : List Int) (w : World) (hp : P2 k fst us op H w) (x : Int) (hx : x ∈ k.Ks) (hnx : notF x ∈ k.Ks) (hn : notF x ∉ H) :
    Calls Try.prog 41 #[.pointer (some ⟨k.C, 0, none⟩), .int .i64 x] w fun e w' => e = .returned (.bool true) ∧ Hid (P2 k fst us op (addH H x) w') := by
  refine (take_any k fst us op H w hp x hx hnx).mono fun e w' he => ?_
  rcases he with ⟨h, _⟩ | ⟨_, h1, h2⟩
  · exact absurd h hn
  · exact ⟨h1, h2⟩

theorem take_no (k : K) (fst : Int → Int) (us : List (Int × Int)) (op H : List Int) (w : World) (hp : P2 k fst us op H w) (x : Int) (hx : x ∈ k.Ks) (hnx : notF x ∈ k.Ks) (hn : notF x ∈ H) :
    Calls Try.prog 41 #[.pointer (some ⟨k.C, 0, none⟩), .int .i64 x] w fun e w' => e = .returned (.bool false) ∧ Hid (P2 k fst us op H w') := by
  refine (take_any k fst us op H w hp x hx hnx).mono fun e w' he => ?_
  rcases he with ⟨_, h1, h2⟩ | ⟨h, _⟩
  · exact ⟨h1, h2⟩
  · exact absurd hn h

/-- of, and whether the literal holds. -/
theorem of_p2 (k : K) (fst : Int → Int) (us : List (Int × Int)) (op H : List Int) (w : World) (hp : P2 k fst us op H w) (x : Int) (hx : x ∈ k.Ks) :
    Calls Try.prog 51 #[.pointer (some ⟨k.C, 3, none⟩), .int .i64 x] w fun e w' => ∃ b o, e = .returned (.pointer (some ⟨b, o, none⟩)) ∧ w'.cell? ⟨b, o, none⟩ = some (.bool (decide (x ∈ H))) ∧ w'.cell? ⟨b, o + 2, none⟩ = some (.int .i64 (fst x)) ∧ Hid (P2 k fst us op H w') := by
  obtain ⟨F, M, ks, uv, hv, s, hh, hf, r⟩ := hp
  have x0 := (s.ok.Kn x hx).1
  refine (of_at s x hx).mono fun e w' he => ?_
  obtain ⟨b, o, M', ks', e1, s', a⟩ := he
  refine ⟨b, o, e1, ?_, ?_, F, M', ks', uv, hv, s'.out, hh, hf, r⟩
  · rw [← hh]; exact s'.out.fa.c0 a.out x0
  · rw [← hf]; exact s'.out.fa.c2 a.out x0

/-- All literals of the clauses, and their Nots, are among the keys. -/
def Among (k : K) (c : List Int) : Prop := ∀ x ∈ c, 0 ≤ x → x ∈ k.Ks ∧ notF x ∈ k.Ks

def SettleEnd (k : K) (fst : Int → Int) (us : List (Int × Int)) (op H c : List Int) (e : Ending) (w' : World) : Prop :=
  ((∀ y ∈ c, 0 ≤ y → notF y ∈ H) ∧ e = .returned (.bool false) ∧ P2 k fst us op H w') ∨ (∃ x, x ∈ c ∧ 0 ≤ x ∧ notF x ∉ H ∧ e = .returned (.bool true) ∧ P2 k fst us op (addH H x) w')

theorem P2.c0 {k : K} {fst : Int → Int} {us : List (Int × Int)} {op H : List Int} {w : World} (h : P2 k fst us op H w) : w.cell? ⟨k.C, 0, none⟩ = some (.slice k.la k.n k.cap) := by
  obtain ⟨F, M, ks, uv, hv, s, _⟩ := h; exact s.c0
theorem P2.be {k : K} {fst : Int → Int} {us : List (Int × Int)} {op H : List Int} {w : World} (h : P2 k fst us op H w) : Below k.w0.heap.size k.w0 w := by
  obtain ⟨F, M, ks, uv, hv, s, _⟩ := h; exact s.be
theorem P2.drew {k : K} {fst : Int → Int} {us : List (Int × Int)} {op H : List Int} {w : World} (h : P2 k fst us op H w) : P2 k fst us op H w.drew := by
  obtain ⟨F, M, ks, uv, hv, s, r⟩ := h; exact ⟨F, M, ks, uv, hv, s.drew, r⟩

theorem below_drew (w : World) : Below w.heap.size w w.drew := ⟨rfl, rfl, rfl, Nat.le_refl _, fun _ _ => rfl⟩

theorem settle_step {ys H : List Int} {q : Nat} {y : Int} (h : ∀ z ∈ ys.take q, 0 ≤ z → notF z ∈ H) (hy : ys[q]? = some y) (hn : 0 ≤ y → notF y ∈ H) : ∀ z ∈ ys.take (q + 1), 0 ≤ z → notF z ∈ H := by
  intro z hz
  rw [List.take_add_one, hy] at hz
  rcases List.mem_append.1 hz with hz | hz
  · exact h z hz
  · simp at hz; subst hz; exact hn

/-- .. and a list that came in is as it was. -/
theorem of_row (k : K) (fst : Int → Int) (us : List (Int × Int)) (op H : List Int) (w : World) (hp : P2 k fst us op H w) (x : Int) (hx : x ∈ k.Ks) {a : Option Addr} {m cc : Nat} {ys : List Int} (hr : Row k.w0 a m cc ys) :
    Calls Try.prog 51 #[.pointer (some ⟨k.C, 3, none⟩), .int .i64 x] w fun e w' => ∃ b o, e = .returned (.pointer (some ⟨b, o, none⟩)) ∧ w'.cell? ⟨b, o, none⟩ = some (.bool (decide (x ∈ H))) ∧ Hid (P2 k fst us op H w') ∧ Hid (Row w' a m cc ys) := by
  refine (of_p2 k fst us op H w hp x hx).mono fun e w' he => ?_
  obtain ⟨b, o, h1, h2, _, h3⟩ := he
  exact ⟨b, o, h1, h2, h3, hr.keep h3.out.be⟩

set_option maxHeartbeats 2000000 in
theorem settle_any (k : K) (fst : Int → Int) (us : List (Int × Int)) (op H c : List Int) (L : List (List Int)) (w : World) (hp : P2 k fst us op H w) (gr : Grid k.w0 k.la k.n k.cap L) (i : Nat) (hi : L[i]? = some c) (ham : Among k c) :
    Calls Try.prog 42 #[.pointer (some ⟨k.C, 0, none⟩), .int .i64 i] w fun e w' => SettleEnd k fst us op H c e w' := by
  have hin : i < k.n := by have := (List.getElem?_eq_some_iff.1 hi).1; rw [gr.1] at this; exact this
  have c0 := hp.c0
  obtain ⟨b, off, a, m, cc, ys, ela, hc, hy, hr0⟩ := gr.at hin
  have hr := hid (hr0.out.keep hp.be)
  have hc := (hp.be.cell (cell_lt hc)).trans hc
  obtain rfl : ys = c := by have := hy.out; rw [hi] at this; exact (Option.some.inj this).symm
  rw [ela] at c0
  have HP := hid hp
  have HA := hid ham
  have hmx := hr.out.max
  have hin' : (i : Int) < k.n := by omega
  clear hp ham hy hi ela gr
  go_enter Try.func42, Try.ntmps42
  go_wp2
  go_loopw [6, 15] (fun _ j wr => ∃ q : Nat, q ≤ m ∧ j = .int .i64 q ∧ Hid (P2 k fst us op H wr) ∧ Hid (Row wr a m cc ys) ∧ Hid (∀ y ∈ ys.take q, 0 ≤ y → notF y ∈ H)) (fun _ j _ => m - (intOf j).toNat)
  case atStart => exact ⟨0, Nat.zero_le _, rfl, HP, hr, hid (fun y hy => by simp at hy)⟩
  case round =>
    clear hc c0 HP hr
    obtain ⟨q, hq, rfl, hp, hrow, hno⟩ := hrel
    by_cases hlt : q < m
    · obtain ⟨b1, off1, y, rfl, hc1, hy, y0, y1⟩ := hrow.out.at hlt
      have hmem := hid (List.mem_of_getElem? hy.out)
      by_cases hneg : y < 0
      · have HW := hid (settle_step hno.out hy.out (fun h => by omega))
        have hneg' : decide ((0 : Int) ≤ y) = false := by simp; omega
        go_wp2
        first
          | go_region_with (fail)
          | fail
        all_goals go_wp2
        all_goals go_roundw
        all_goals first
          | exact ⟨q + 1, by omega, by go_num, hid hp.out.drew, hid (hrow.out.keep (below_drew _)), HW⟩
          | (simp [intOf]; omega)
      · have hpos : (0 : Int) ≤ y := by omega
        have HK := hid (HA.out y hmem.out hpos)
        by_cases hin2 : notF y ∈ H
        · have HW := hid (settle_step hno.out hy.out (fun _ => hin2))
          have hd : decide (notF y ∈ H) = true := by simpa using hin2
          clear hin2
          go_wp2
          go_region_with (first
            | (go_at_call 37; with_reducible (refine (not_any _ _ y1).mono ?_); rintro e w1 ⟨rfl, hb1⟩; have hp1 := hid (hp.out.drew.below hb1))
            | (go_at_call 51; with_reducible (refine (of_row k fst us op H _ hp1.out _ HK.out.2 hr0.out).mono ?_); rintro e w2 ⟨b2, o2, rfl, d0, hp2, hr2⟩))
          all_goals go_wp2
          all_goals go_roundw
          all_goals first
            | exact ⟨q + 1, by omega, by go_num, hp2, hr2, HW⟩
            | (simp [intOf]; omega)
        · have hd : decide (notF y ∈ H) = false := by simpa using hin2
          have HN := hid hin2
          clear hin2
          go_wp2
          go_region_with (first
            | (go_at_call 37; with_reducible (refine (not_any _ _ y1).mono ?_); rintro e w1 ⟨rfl, hb1⟩; have hp1 := hid (hp.out.drew.below hb1))
            | (go_at_call 51; with_reducible (refine (of_row k fst us op H _ hp1.out _ HK.out.2 hr0.out).mono ?_); rintro e w2 ⟨b2, o2, rfl, d0, hp2, hr2⟩))
          all_goals go_wp2_with (go_at_call 41; with_reducible (refine (take_yes k fst us op H _ hp2.out _ HK.out.1 HK.out.2 HN.out).mono ?_); rintro e w3 ⟨rfl, hp3⟩)
          all_goals go_ret
          all_goals exact .inr ⟨y, hmem.out, hpos, HN.out, rfl, hp3.out⟩
    · have HW : Hid (∀ y ∈ ys, 0 ≤ y → notF y ∈ H) := hid (by
        have := hno.out
        rwa [List.take_of_length_le (by rw [hrow.out.1]; omega)] at this)
      go_wp2
      go_ret
      exact .inl ⟨HW.out, rfl, hp.out⟩

end Go.Proofs.Ytdkkdfgaponlbaa
