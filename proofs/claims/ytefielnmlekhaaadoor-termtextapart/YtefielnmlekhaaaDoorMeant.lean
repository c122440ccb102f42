/-
  The document's terms: one deed.
-/
import Derived.Test.YtefielnmlekhaaaDoorRcA
import Derived.Test.YtefielnmlekhaaaDoorRcB
import Derived.Test.YtefielnmlekhaaaDoorRcC
import Derived.Test.YtefielnmlekhaaaDoorRcD
import Derived.Test.YtefielnmlekhaaaDoorRcE
import Derived.Test.YtefielnmlekhaaaDoorRcF
import Derived.Test.YtefielnmlekhaaaDoorRcG
import Derived.Test.YtefielnmlekhaaaDoorRcH
namespace Go.Proofs.YtefielnmlekhaaaDoor
open Go.RowKit Go.Maps
set_option linter.unusedVariables false
set_option maxRecDepth 100000

/-- Inside meant: the boxes of the terms, of the deed, of the result. -/
structure RT (w0 : World) (ao : Option Addr) (c M : Nat) (N : List Nd) (wr : World) : Prop where
  be : Below w0.heap.size w0 wr
  b2 : wr.heap[w0.heap.size + 1 + 1]? = some (.cells #[.slice none 0 0, .int .i64 0] 27 (0, 0))
  rd : RD wr ao c N

theorem RT.below {w0 wr wr' : World} {ao : Option Addr} {c M : Nat} {N : List Nd} (h : RT w0 ao c M N wr) (b : Below wr.heap.size wr wr') : RT w0 ao c M N wr' :=
  ⟨Below.next h.be b, by rw [b.block _ (blk_lt h.b2)]; exact h.b2, h.rd.below b⟩

theorem RT.start {w : World} {ao : Option Addr} {c M : Nat} {N : List Nd} (s : RD w ao c N) (kd dw da db dc dx : Int) :
    RT w ao c M N (((w.alloc (.cells #[.slice ao N.length c, .int .i64 M] 27)).alloc (.cells #[.int .i64 kd, .int .i64 dw, .int .i64 da, .int .i64 db, .int .i64 dc, .int .u64 dx] 47)).alloc (.cells #[.slice none 0 0, .int .i64 0] 27)) := by
  have b : Below w.heap.size w (((w.alloc (.cells #[.slice ao N.length c, .int .i64 M] 27)).alloc (.cells #[.int .i64 kd, .int .i64 dw, .int .i64 da, .int .i64 db, .int .i64 dc, .int .u64 dx] 47)).alloc (.cells #[.slice none 0 0, .int .i64 0] 27)) := by go_grown
  exact ⟨b, new_at' _ _ (by simp), s.below b⟩

theorem rt_open {w wr : World} {ao : Option Addr} {c M : Nat} {N : List Nd} (s : RT w ao c M N wr) {p : Plan} {f : FuncId} {args : Array Value} (h : Calls Tryd.prog f args wr fun e w' => RcEnd wr ao M N p e w') :
    Calls Tryd.prog f args wr fun e w' => ∃ ao' c', e = .returned (.tuple #[.agg #[.slice ao' (resN M N p).length c', .int .i64 M], .int .i64 (resI M N p), .int .i64 (resE M N p)]) ∧ Hid (RDF wr ao w' ao' c' (resN M N p)) ∧ Hid (Below wr.heap.size wr w') ∧
      w'.cell? ⟨w.heap.size + 1 + 1, 0, none⟩ = some (.slice none 0 0) ∧ w'.cell? ⟨w.heap.size + 1 + 1, 1, none⟩ = some (.int .i64 0) ∧ w'.frozen? ⟨w.heap.size + 1 + 1, 0, none⟩ = false ∧ w'.frozen? ⟨w.heap.size + 1 + 1, 1, none⟩ = false := by
  refine h.mono fun e w' h => ?_
  obtain ⟨ao', c', rfl, h1, h2⟩ := h
  have s2 := s.below h2.out
  exact ⟨ao', c', rfl, h1, h2, (two_of s2.b2).1, (two_of s2.b2).2, frozen_of s2.b2, frozen_of s2.b2⟩

theorem rc_mean {w wr w' : World} {ao ao' : Option Addr} {c c' M : Nat} {N : List Nd} {p : Plan} {x y : Value} (s : RT w ao c M N wr) (hr : Hid (RDF wr ao w' ao' c' (resN M N p))) (b : Hid (Below wr.heap.size wr w')) :
    RcEnd w ao M N p (.returned (.tuple #[.agg #[.slice ao' (resN M N p).length c', .int .i64 M], .int .i64 (resI M N p), .int .i64 (resE M N p)])) ((w'.setCell ⟨w.heap.size + 1 + 1, 0, none⟩ x).setCell ⟨w.heap.size + 1 + 1, 1, none⟩ y) :=
  ⟨ao', c', rfl, hid ⟨res_keep (s.below b.out).b2 hr.out.1, hr.out.2.from s.be.size⟩, hid (res_below (s.below b.out).be (by omega))⟩

set_option maxHeartbeats 4000000 in
theorem rmeant_any {w : World} {ao : Option Addr} {c M : Nat} {N : List Nd} (s : RD w ao c N) (hN : N.length ≤ 65536) (gd : Gd N) (d : Dd) (hd : DdFt d) :
    Calls Tryd.prog 18 #[.agg #[.slice ao N.length c, .int .i64 M], .agg #[.int .i64 d.kd, .int .i64 d.w, .int .i64 d.a, .int .i64 d.b, .int .i64 d.c, .int .u64 d.x]] w fun e w' => RcEnd w ao M N (planD N d) e w' := by
  obtain ⟨hw, ha, hb, hc, hx⟩ := hd
  obtain ⟨kd, dw, da, db, dc, dx⟩ := d
  simp only [] at hw ha hb hc hx ⊢
  have HS : Hid (RT w ao c M N _) := hid (RT.start s kd dw da db dc dx)
  clear s
  have GD := hid gd
  clear gd
  by_cases h0 : kd = 0
  · subst h0
    refine rc_tells (q := constP dw dx) (by simp [planD]) ?_
    go_enter Tryd.func18, Tryd.ntmps18
    go_wp2_with (go_at_call 34; with_reducible (refine (rt_open HS.out (rconst_any HS.out.rd hN dw dx hx.1 hx.2)).mono ?_); rintro e w2 ⟨ao2, c2, rfl, h2, b2, r0, r1, f0, f1⟩)
    refine bodyPost_ret (results_box3 rfl _ _ (w.heap.size + 1 + 1) _ _ rfl (res_two (HS.out.below b2.out).b2).1 (res_two (HS.out.below b2.out).b2).2) rfl ?_
    exact rc_mean HS.out h2 b2
  by_cases h1 : kd = 1
  · subst h1
    refine rc_tells (q := varP N dw da) (by simp [planD]) ?_
    clear h0
    go_enter Tryd.func18, Tryd.ntmps18
    go_wp2_with (go_at_call 35; with_reducible (refine (rt_open HS.out (rvar_any HS.out.rd hN GD.out dw da)).mono ?_); rintro e w2 ⟨ao2, c2, rfl, h2, b2, r0, r1, f0, f1⟩)
    refine bodyPost_ret (results_box3 rfl _ _ (w.heap.size + 1 + 1) _ _ rfl (res_two (HS.out.below b2.out).b2).1 (res_two (HS.out.below b2.out).b2).2) rfl ?_
    exact rc_mean HS.out h2 b2
  by_cases h2 : kd = 2
  · subst h2
    refine rc_tells (q := unP N da db) (by simp [planD]) ?_
    clear h0 h1
    go_enter Tryd.func18, Tryd.ntmps18
    go_wp2_with (go_at_call 36; with_reducible (refine (rt_open HS.out (runary_any HS.out.rd hN da db)).mono ?_); rintro e w2 ⟨ao2, c2, rfl, h2, b2, r0, r1, f0, f1⟩)
    refine bodyPost_ret (results_box3 rfl _ _ (w.heap.size + 1 + 1) _ _ rfl (res_two (HS.out.below b2.out).b2).1 (res_two (HS.out.below b2.out).b2).2) rfl ?_
    exact rc_mean HS.out h2 b2
  by_cases h3 : kd = 3
  · subst h3
    refine rc_tells (q := binP N da db dc) (by simp [planD]) ?_
    clear h0 h1 h2
    go_enter Tryd.func18, Tryd.ntmps18
    go_wp2_with (go_at_call 37; with_reducible (refine (rt_open HS.out (rbinary_any HS.out.rd hN da db dc)).mono ?_); rintro e w2 ⟨ao2, c2, rfl, h2, b2, r0, r1, f0, f1⟩)
    refine bodyPost_ret (results_box3 rfl _ _ (w.heap.size + 1 + 1) _ _ rfl (res_two (HS.out.below b2.out).b2).1 (res_two (HS.out.below b2.out).b2).2) rfl ?_
    exact rc_mean HS.out h2 b2
  by_cases h4 : kd = 4
  · subst h4
    refine rc_tells (q := iteP N da db dc) (by simp [planD]) ?_
    clear h0 h1 h2 h3
    go_enter Tryd.func18, Tryd.ntmps18
    go_wp2_with (go_at_call 38; with_reducible (refine (rt_open HS.out (rite_any HS.out.rd hN da db dc)).mono ?_); rintro e w2 ⟨ao2, c2, rfl, h2, b2, r0, r1, f0, f1⟩)
    refine bodyPost_ret (results_box3 rfl _ _ (w.heap.size + 1 + 1) _ _ rfl (res_two (HS.out.below b2.out).b2).1 (res_two (HS.out.below b2.out).b2).2) rfl ?_
    exact rc_mean HS.out h2 b2
  by_cases h5 : kd = 5
  · subst h5
    refine rc_tells (q := extP N da db dw) (by simp [planD]) ?_
    clear h0 h1 h2 h3 h4
    go_enter Tryd.func18, Tryd.ntmps18
    go_wp2_with (go_at_call 39; with_reducible (refine (rt_open HS.out (rextract_any HS.out.rd hN GD.out da db dw (b64_of hb) (b64_of hw))).mono ?_); rintro e w2 ⟨ao2, c2, rfl, h2, b2, r0, r1, f0, f1⟩)
    refine bodyPost_ret (results_box3 rfl _ _ (w.heap.size + 1 + 1) _ _ rfl (res_two (HS.out.below b2.out).b2).1 (res_two (HS.out.below b2.out).b2).2) rfl ?_
    exact rc_mean HS.out h2 b2
  by_cases h6 : kd = 6
  · subst h6
    refine rc_tells (q := catP N da db) (by simp [planD]) ?_
    clear h0 h1 h2 h3 h4 h5
    go_enter Tryd.func18, Tryd.ntmps18
    go_wp2_with (go_at_call 40; with_reducible (refine (rt_open HS.out (rconcat_any HS.out.rd hN GD.out da db)).mono ?_); rintro e w2 ⟨ao2, c2, rfl, h2, b2, r0, r1, f0, f1⟩)
    refine bodyPost_ret (results_box3 rfl _ _ (w.heap.size + 1 + 1) _ _ rfl (res_two (HS.out.below b2.out).b2).1 (res_two (HS.out.below b2.out).b2).2) rfl ?_
    exact rc_mean HS.out h2 b2
  refine rc_tells (q := widP N da dw (oddB db)) (by simp [planD, h0, h1, h2, h3, h4, h5, h6]) ?_
  have k0 : (kd == 0) = false := by simpa using h0
  have k1 : (kd == 1) = false := by simpa using h1
  have k2 : (kd == 2) = false := by simpa using h2
  have k3 : (kd == 3) = false := by simpa using h3
  have k4 : (kd == 4) = false := by simpa using h4
  have k5 : (kd == 5) = false := by simpa using h5
  have k6 : (kd == 6) = false := by simpa using h6
  clear h0 h1 h2 h3 h4 h5 h6
  go_enter Tryd.func18, Tryd.ntmps18
  go_wp2_with (go_at_call 41; with_reducible (refine (rt_open HS.out (rextend_any HS.out.rd hN da dw _)).mono ?_); rintro e w2 ⟨ao2, c2, rfl, h2, b2, r0, r1, f0, f1⟩)
  refine bodyPost_ret (results_box3 rfl _ _ (w.heap.size + 1 + 1) _ _ rfl (res_two (HS.out.below b2.out).b2).1 (res_two (HS.out.below b2.out).b2).2) rfl ?_
  exact rc_mean HS.out h2 b2

end Go.Proofs.YtefielnmlekhaaaDoor
