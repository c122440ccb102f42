/-
  Row of constants alone; awake.
-/
import Derived.Test.YtifecnnkkbpglaaMb
namespace Go.Proofs.Ytifecnnkkbpglaa
open Go.RowKit
set_option linter.unusedVariables false

theorem RwS.con {B : BT} {gb : Nat} {wE wr : World} {x : Int} {is0 : List Int} {n0 : Nat} {v0 : Nat → Bool} {m : Nat} {rv hv : Value} {xs hs : List Int} {n : Nat} {cs : List (List Int)} {val : Nat → Bool} {is : List Int} (s : RwS B gb wE wr x is0 n0 v0 m m rv hv xs hs n cs val is) :
    ∃ ao c1 ho l2 c2, rv = .slice ao m c1 ∧ hv = .slice ho l2 c2 ∧ QEnd B gb is n0 v0 m wE wr ao m c1 (fun j => Wd.bitB x j) := by
  obtain ⟨ao, c1, e1, t1⟩ := s.o1.trow (T := fun _ => False) (fun b hb => hb.elim)
  obtain ⟨ho, c2, e2, t2⟩ := s.o2.trow (T := fun _ => False) (fun b hb => hb.elim)
  rw [s.lx] at e1 t1
  exact ⟨ao, c1, ho, hs.length, c2, e1, e2, n, cs, val, xs, ⟨s.lo, s.hi, s.g, s.ag, s.h.hop rfl (World.grownBy.refl _ none) (fun j T hj => by cases hj) (fun b hb => ⟨s.h.tl b (.inl hb), .inl (.inl hb)⟩), s.f⟩, t1, ⟨s.lx, s.rx, s.vx⟩⟩

set_option maxHeartbeats 8000000 in
theorem row_con {B : BT} {gb n : Nat} {cs : List (List Int)} {val : Nat → Bool} {is : List Int} (w : World) (g : Good n cs val is) (h : Gt B gb w n cs) (hn : n ≤ 1000) (m : Nat) (hm : m ≤ 64) (x inn : Int) (x0 : 0 ≤ x) (x1 : x < 18446744073709551616) (i0 : 0 ≤ inn) (i1 : inn < 18446744073709551616) (hz : ∀ q, Wd.bitB inn q = false) :
    Calls Try.prog 8 #[.pointer (some ⟨gb, 0, none⟩), .int .i64 m, .int .u64 x, .int .u64 inn] w fun e w' => ∃ ao c1 ho l2 c2, e = .returned (.tuple #[.slice ao m c1, .slice ho l2 c2]) ∧ Hid (QEnd B gb is n val m w w' ao m c1 (fun j => Wd.bitB x j)) := by
  have L0 : Hid (∃ xs hs n2 cs2 val2, RwS B gb w w x is n val 0 0 (.slice none 0 0) (.slice none 0 0) xs hs n2 cs2 val2 is) := hid ⟨_, _, _, _, _, RwS.start g h⟩
  clear g h
  go_enter Try.func8, Try.ntmps8
  go_wp2
  go_loopw [10, 11, 12, 13, 14] (fun rv hv i _ _ wr => ∃ q : Nat, q ≤ m ∧ i = .int .i64 q ∧ Hid (∃ xs hs n2 cs2 val2, RwS B gb w wr x is n val q q rv hv xs hs n2 cs2 val2 is)) (fun _ _ i _ _ _ => m - (intOf i).toNat)
  case atStart => exact ⟨0, Nat.zero_le _, rfl, L0⟩
  case round =>
    clear L0
    obtain ⟨q, hq, rfl, hst⟩ := hrel
    obtain ⟨xs, hs, n2, cs2, val2, lp⟩ := hst.out
    have LP := hid lp
    have n2b : n2 ≤ 2000 := by have := lp.hi; omega
    have hxl : Hid (xs.length ≤ 100) := hid (by rw [lp.lx]; omega)
    have hhl : Hid (hs.length ≤ 100) := hid (by have := lp.hl; omega)
    obtain ⟨ra, rn, rc, rfl, _⟩ := lp.o1.shape
    obtain ⟨ha, hn2, hc2, rfl, _⟩ := lp.o2.shape
    clear lp hst
    by_cases hlt : q < m
    · have hlt' : (q : Int) < m := by omega
      have q64 : q < 64 := by omega
      have hbit := fun (w : World) => Wd.rbit_any x q w x0 x1 q64
      have hi2 : ((inn / 2 ^ q).tmod 2 == 1) = false := hz q
      cases hb : Wd.bitB x q
      · have HB := hid hb
        have hx01 : bits .xor .i64 0 1 = 1 := by decide +kernel
        have HSZ : Hid (w.heap.size ≤ wr.heap.size) := hid LP.out.f.size
        go_wp2_with (first
          | (go_at_call 14; with_reducible (refine (true_any gb _).mono ?_); rintro e w3 ⟨rfl, rfl⟩)
          | (go_at_call 16; with_reducible (refine (hbit _).mono ?_); rintro e w4 ⟨rfl, rfl⟩; rw [HB.out])
          | (at_builtin; refine wpList_app rfl _ _ 29 3 rfl Try.underlying29 (.int .i64 0) 1 8 rfl (by decide) Try.info3 (by decide) [.int .i64 1] rfl rfl (ints_one [1]) w.heap.size xs.length _ _ rfl LP.out.o1.1 rfl (Nat.le_trans hxl.out (by decide)) HSZ.out ?_; intro v6 w6 own6 g6 l6))
        have LP7 := hid (LP.out.row (by omega) (rng_one LP.out.g.pos) (by rw [hd_one LP.out.g, HB.out]) own6.out g6.out l6.out)
        go_wp2
        go_roundw
        case rel => exact ⟨q + 1, by omega, by go_num, hid ⟨_, _, _, _, _, LP7.out.mono (by omega)⟩⟩
        case measure => simp only [intOf]; omega
      · have HB := hid hb
        have hx01 : bits .xor .i64 0 1 = 1 := by decide +kernel
        have HSZ : Hid (w.heap.size ≤ wr.heap.size) := hid LP.out.f.size
        go_wp2_with (first
          | (go_at_call 14; with_reducible (refine (true_any gb _).mono ?_); rintro e w3 ⟨rfl, rfl⟩)
          | (go_at_call 16; with_reducible (refine (hbit _).mono ?_); rintro e w4 ⟨rfl, rfl⟩; rw [HB.out])
          | (at_builtin; refine wpList_app rfl _ _ 29 3 rfl Try.underlying29 (.int .i64 0) 1 8 rfl (by decide) Try.info3 (by decide) [.int .i64 0] rfl rfl (ints_one [0]) w.heap.size xs.length _ _ rfl LP.out.o1.1 rfl (Nat.le_trans hxl.out (by decide)) HSZ.out ?_; intro v6 w6 own6 g6 l6))
        have LP7 := hid (LP.out.row (by omega) (rng_zero LP.out.g.pos) (by rw [hd_zero LP.out.g, HB.out]) own6.out g6.out l6.out)
        go_wp2
        go_roundw
        case rel => exact ⟨q + 1, by omega, by go_num, hid ⟨_, _, _, _, _, LP7.out.mono (by omega)⟩⟩
        case measure => simp only [intOf]; omega
    · have hqm : q = m := by omega
      subst hqm
      obtain ⟨ao, c1, ho, l2, c2, e1, e2, RE⟩ := LP.out.con
      cases e1
      cases e2
      have RE := hid RE
      go_wp2
      go_ret2
      exact ⟨_, _, _, _, _, rfl, RE⟩

theorem bit_zero (q : Nat) : Wd.bitB 0 q = false := bit_is 0 q (Int.le_refl _) false (by simp [Wd.b01])

theorem tr_nil (w : World) : TR w none 0 0 [] := ⟨row_none w, fun h0 => absurd h0 (Nat.lt_irrefl 0)⟩


end Go.Proofs.Ytifecnnkkbpglaa
