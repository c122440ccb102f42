/-
  The walk of TermtextShows.
-/
import Derived.Test.YtefielnmlekhaaaDoorAwake
namespace Go.Proofs.YtefielnmlekhaaaDoor
open Go.RowKit Go.Maps
set_option linter.unusedVariables false
set_option maxRecDepth 100000

/-- Between two calls: the terms N in both forms, the variables, the box. -/
structure Tq (w0 : World) (x y : Addr) (k : K) (XB : Nat) (N : List Nd) (P : Nat → Prop) (ao : Option Addr) (c : Nat) (wr : World) : Prop where
  be : Below w0.heap.size w0 wr
  en : Env wr x y
  dg : Dg k wr N P
  rd : RD wr ao c N
  bx : wr.heap[XB]? = some (.cells #[.slice ao N.length c, .int .i64 k.M] 27 (0, 0))
theorem Tq.below {w0 wr w2 : World} {x y : Addr} {k : K} {XB : Nat} {N : List Nd} {P : Nat → Prop} {ao : Option Addr} {c : Nat} (h : Tq w0 x y k XB N P ao c wr) (b : Below wr.heap.size wr w2) : Tq w0 x y k XB N P ao c w2 :=
  ⟨Below.next h.be b, h.en.keep b, h.dg.below b, h.rd.below b, by rw [b.block _ (blk_lt h.bx)]; exact h.bx⟩
theorem tq_start {w0 w1 : World} {x y : Addr} {k : K} {N : List Nd} {P : Nat → Prop} {ao : Option Addr} {c : Nat} (hE : Env w0 x y) (s : Dg k w1 N P) (r : RD w1 ao c N) (b : Below w0.heap.size w0 w1) :
    Tq w0 x y k w1.heap.size N P ao c (w1.alloc (.cells #[.slice ao N.length c, .int .i64 k.M] 27)) := by
  have b2 := new_b w1 (.cells #[.slice ao N.length c, .int .i64 k.M] 27)
  exact ⟨Below.next b b2, hE.keep (Below.next b b2), s.below b2, r.below b2, new_same _ _⟩
theorem Tq.two {w0 wr : World} {x y : Addr} {k : K} {XB : Nat} {N : List Nd} {P : Nat → Prop} {ao : Option Addr} {c : Nat} (h : Tq w0 x y k XB N P ao c wr) : wr.cell? ⟨XB, 0, none⟩ = some (.slice ao N.length c) ∧ wr.cell? ⟨XB, 1, none⟩ = some (.int .i64 k.M) :=
  ⟨cell_of h.bx, cell_of h.bx⟩

theorem rShow_is {w : World} {ao : Option Addr} {c M : Nat} {N : List Nd} (hR : RD w ao c N) (r : Wl N) (g : Gd N) (hN : N.length ≤ 100000) (id : Int) {S : List UInt8} {E : Int} (h : shS N id = S ∧ shE N id = E) :
    Calls Tryd.prog 8 #[.agg #[.slice ao N.length c, .int .i64 M], .int .i64 id] w fun e w' => e = .returned (.tuple #[.string ⟨S.toArray⟩, .int .i64 E]) ∧ Hid (Below w.heap.size w w') := by
  rw [← h.1, ← h.2]
  exact rShow_any hR r g hN id
theorem rword_is {op : Int} {w : World} {S : List UInt8} (h : wordF op = S) : Calls Tryd.prog 10 #[.int .i64 op] w fun e w' => e = .returned (.string ⟨S.toArray⟩) ∧ Hid (Below w.heap.size w w') := by
  rw [← h]
  exact rword_any op w
theorem shE_of (N : List Nd) (i : Int) : shE N i = 0 ∨ shE N i = 8 ∨ shE N i = 11 := by
  unfold shE
  split
  · split
    · exact .inl rfl
    · exact .inr (.inl rfl)
  · exact .inr (.inr rfl)

set_option maxHeartbeats 8000000 in
theorem shows_walk {x y : Addr} (a : Option Addr) (len cap : Nat) (D : Nat → Dd) (ix op : Int) (w : World) (hD : Deeds w a len D) (hE : Env w x y) :
    Calls Tryd.prog 3 #[.slice a len cap, .int .i64 ix, .int .i64 op] w fun e w' => e = .returned (.bool true) ∧ Below w.heap.size w w' := by
  have HD := hid hD
  have HE := hid hE
  clear hD hE
  by_cases h60 : 60 < len
  · have h60' : (60 : Int) < len := by omega
    go_enter Tryd.func3, Tryd.ntmps3
    go_wp2_with (go_at_call 5; with_reducible (refine (awake_any _ HE.out).mono ?_); rintro e w1 ⟨rfl, b1⟩)
    go_ret
    exact ⟨rfl, b1.out⟩
  · have h60' : ¬ (60 : Int) < len := by omega
    have hl : len ≤ 150 := by omega
    go_enter Tryd.func3, Tryd.ntmps3
    go_wp2_with (go_at_call 6; with_reducible (refine (build_any 1000 _ _ _ D _ HD.out hl).mono ?_); rintro e w1 ⟨k, N, P, ao, c, rfl, s1, r1, b1, wl, hn, hM, hB⟩)
    have HT := hid (tq_start HE.out s1.out r1.out b1.out)
    have HW := hid wl.out
    have HG := hid s1.out.1
    have hN : N.length ≤ 60 := by omega
    clear s1 r1 b1 hM hB wl
    revert HT
    generalize w1.alloc (.cells #[.slice ao N.length c, .int .i64 k.M] 27) = wz
    generalize w1.heap.size = XB
    intro HT
    go_loopw [9] (fun i wr => ∃ q : Nat, q ≤ N.length ∧ i = .int .i64 q ∧ Hid (Tq w x y k XB N P ao c wr)) (fun i _ => N.length - (intOf i).toNat)
    case atStart => exact ⟨0, Nat.zero_le _, rfl, HT⟩
    case round =>
      clear HT
      obtain ⟨q, hq, rfl, hr⟩ := hrel
      obtain ⟨c0, c1⟩ := hr.out.two
      by_cases hlt : q < N.length
      · have hlt' : (q : Int) < N.length := by omega
        obtain ⟨S, hS⟩ : ∃ S, shS N q = S := ⟨_, rfl⟩
        obtain ⟨E, hE⟩ : ∃ E, shE N q = E := ⟨_, rfl⟩
        have eE : E = 0 ∨ E = 8 ∨ E = 11 := by rw [← hE]; exact shE_of N q
        have HS := hid (And.intro hS hE)
        clear hS hE
        go_wp2_with (first
          | (go_at_call 7; with_reducible (refine (show_is hr.out.en hr.out.dg HW.out q HS.out).mono ?_); rintro e w2 ⟨rfl, b2⟩; have H2 := hid (hr.out.below b2.out); obtain ⟨d0, d1⟩ := H2.out.two)
          | (go_at_call 8; with_reducible (refine (rShow_is H2.out.rd HW.out HG.out (by omega) q HS.out).mono ?_); rintro e w3 ⟨rfl, b3⟩; have H3 := hid (H2.out.below b3.out)))
        go_roundw
        case rel => exact ⟨q + 1, by omega, by go_num, H3⟩
        case measure => simp only [intOf]; omega
      · have hlt' : ¬ (q : Int) < N.length := by omega
        obtain ⟨S, hS⟩ : ∃ S, shS N ix = S := ⟨_, rfl⟩
        obtain ⟨E, hE⟩ : ∃ E, shE N ix = E := ⟨_, rfl⟩
        obtain ⟨O, hO⟩ : ∃ O, wordF op = O := ⟨_, rfl⟩
        have HS := hid (And.intro hS hE)
        have HO := hid hO
        clear hS hE hO
        go_wp2_with (first
          | (go_at_call 7; with_reducible (refine (show_is hr.out.en hr.out.dg HW.out ix HS.out).mono ?_); rintro e w2 ⟨rfl, b2⟩; have H2 := hid (hr.out.below b2.out); obtain ⟨d0, d1⟩ := H2.out.two)
          | (go_at_call 8; with_reducible (refine (rShow_is H2.out.rd HW.out HG.out (by omega) ix HS.out).mono ?_); rintro e w3 ⟨rfl, b3⟩; have H3 := hid (H2.out.below b3.out))
          | (go_at_call 9; with_reducible (refine (word_is H3.out.en HO.out).mono ?_); rintro e w4 ⟨rfl, rfl⟩)
          | (go_at_call 10; with_reducible (refine (rword_is HO.out).mono ?_); rintro e w5 ⟨rfl, b5⟩; have H5 := hid (H3.out.below b5.out))
          | (go_at_call 5; with_reducible (refine (awake_any _ H5.out.en).mono ?_); rintro e w6 ⟨rfl, b6⟩))
        go_ret
        exact ⟨rfl, Below.next H5.out.be b6.out⟩

end Go.Proofs.YtefielnmlekhaaaDoor
