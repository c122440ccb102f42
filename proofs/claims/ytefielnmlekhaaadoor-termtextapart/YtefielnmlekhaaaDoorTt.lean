/-
  appendTerm; Show.
-/
import Derived.Test.YtefielnmlekhaaaDoorTm
import Derived.Test.YtefielnmlekhaaaDoorBwalk
namespace Go.Proofs.YtefielnmlekhaaaDoor
open Go.RowKit
open Go.Lib (decDigits itoa byteCells)
set_option linter.unusedVariables false
set_option maxRecDepth 20000

theorem long_no {w0 : World} {x y : Addr} (hE : Env w0 x y) {v : Value} {t : List UInt8} {w : World} (h : Buf w0 w v t) (hl : t.length ≤ 4096) : Calls Tryd.prog 43 #[v] w fun e w' =>
    ∃ v', e = .returned (.tuple #[v', .nilIface]) ∧ Hid (Buf w0 w' v' t) ∧ Hid (Kp w w') := by
  refine (fits_use hE h (by omega)).mono fun e w' q => ?_
  rcases q with ⟨_, q⟩ | ⟨q, _⟩
  · exact q
  · omega
theorem long_yes {w0 : World} {x y : Addr} (hE : Env w0 x y) {v : Value} {t : List UInt8} {w : World} (h : Buf w0 w v t) (hl : ¬ t.length ≤ 4096) (h2 : t.length ≤ 100000000) : Calls Tryd.prog 43 #[v] w fun e w' =>
    e = .returned (.tuple #[.slice none 0 0, .iface 125 (.pointer (some y))]) ∧ Hid (Below w0.heap.size w0 w') ∧ Hid (Kp w w') := by
  refine (fits_use hE h h2).mono fun e w' q => ?_
  rcases q with ⟨q, _⟩ | ⟨_, q⟩
  · omega
  · exact q

theorem made_use {k : K} {w0 : World} {x y : Addr} {N : List Nd} (hE : Env w0 x y) (r : Wl N) (g : Gd N) {i : Nat} (hi : i < N.length) (n : Nd) (hn : ndA N i = n) (o0 : n.op ≠ 20) (o1 : n.op ≠ 21) (ih : ∀ j : Nat, j < i → TermOk k w0 N y j)
    {v : Value} {t : List UInt8} {w : World} (h : Buf w0 w v t) (hl : t.length ≤ 5000) :
    Calls Tryd.prog 45 #[v, .pointer (some ⟨k.DB, 0, none⟩), .agg #[.int .i64 n.op, .int .i64 n.wd, .int .i64 n.a, .int .i64 n.b, .int .i64 n.c, .int .u64 n.v]] w fun e w' =>
      ((t ++ TX N i).length ≤ 4096 ∧ ∃ v', e = .returned (.tuple #[v', .nilIface]) ∧ Hid (Buf w0 w' v' (t ++ TX N i)) ∧ Hid (Kp w w')) ∨ (4096 < (t ++ TX N i).length ∧ e = .returned (.tuple #[.slice none 0 0, .iface 125 (.pointer (some y))]) ∧ Hid (Below w0.heap.size w0 w') ∧ Hid (Kp w w')) :=
  mkt_any hE r g hi n hn o0 o1 ih v t w h hl

theorem node_in {k : K} {w : World} {N : List Nd} {P : Nat → Prop} (s : Dg k w N P) {i : Nat} (hi : i < N.length) {n : Nd} (hn : ndA N i = n) : Calls Tryd.prog 42 #[.pointer (some ⟨k.DB, 0, none⟩), .int .i64 i] w fun e w' =>
    e = .returned (.tuple #[.agg #[.int .i64 n.op, .int .i64 n.wd, .int .i64 n.a, .int .i64 n.b, .int .i64 n.c, .int .u64 n.v], .bool true]) ∧ Hid (Below w.heap.size w w') := by
  have h := node_any s (i : Int)
  rw [isN_nat hi, hn] at h
  exact h
theorem node_off {k : K} {w : World} {N : List Nd} {P : Nat → Prop} (s : Dg k w N P) {i : Int} (hi : isN N i = false) : Calls Tryd.prog 42 #[.pointer (some ⟨k.DB, 0, none⟩), .int .i64 i] w fun e w' =>
    e = .returned (.tuple #[.agg #[.int .i64 0, .int .i64 0, .int .i64 0, .int .i64 0, .int .i64 0, .int .u64 0], .bool false]) ∧ Hid (Below w.heap.size w w') := by
  have h := node_any s i
  rw [ndA_no hi, hi] at h
  exact h

theorem u64_fit {y : Int} (h0 : 0 ≤ y) (h1 : y < 18446744073709551616) : IntKind.u64.wrap y = y := by rw [IntKind.wrap_u64]; omega

set_option maxHeartbeats 16000000 in
theorem term_step {k : K} {w0 : World} {x y : Addr} {N : List Nd} {P : Nat → Prop} (hE : Env w0 x y) (hD : Dg k w0 N P) (r : Wl N) {i : Nat} (hi : i < N.length) (ih : ∀ j : Nat, j < i → TermOk k w0 N y j)
    (v : Value) (t : List UInt8) (w : World) (h : Buf w0 w v t) (hl : t.length ≤ 5000) :
    Calls Tryd.prog 20 #[v, .pointer (some ⟨k.DB, 0, none⟩), .int .i64 i] w fun e w' => TermEnd w0 y (t ++ TX N i) w e w' := by
  have g := hD.1
  have HE := hid hE
  have HB := hid h
  have HD := hid (hD.below h.2)
  obtain ⟨n, hn⟩ : ∃ n, ndA N i = n := ⟨_, rfl⟩
  have hft : Ft n := by rw [← hn]; exact g.ft _ (ndA_mem (isN_nat hi))
  have hwd : 1 ≤ n.wd ∧ n.wd ≤ 64 := by rw [← hn]; exact g.wd _ (ndA_mem (isN_nat hi))
  have HN := hid hn
  have LT : Hid (t.length ≤ 100000000) := hid (by omega)
  have lv := dgs_len (x := n.v) (by have := hft.2.2.2.2.2; omega)
  have lw := dgs_len (x := n.wd) (by omega)
  obtain ⟨ao, c, rfl⟩ := h.shape
  by_cases o0 : n.op = 20
  · have HT : Hid (TX N i = dgs n.v ++ [58] ++ dgs n.wd) := hid (by have e := TX_const r g hi (by rw [hn]; exact o0); rw [hn] at e; exact e)
    have HX : Hid (t ++ dgs n.v ++ [58] ++ dgs n.wd = t ++ TX N i) := hid (by rw [HT.out]; simp)
    have lx : Hid ((t ++ dgs n.v ++ [58] ++ dgs n.wd).length ≤ 100000000) := hid (by simp; omega)
    have f1 := hft.2.2.2.2.2
    have hl2 : Hid (t.length ≤ 100000) := hid (by omega)
    clear hE h hD g hft hn LT lv lw ih HT
    go_enter Tryd.func20, Tryd.ntmps20
    go_wp2_with (first
      | (go_at_call 42; with_reducible (refine (node_in HD.out hi HN.out).mono ?_); rintro e w1 ⟨rfl, b1⟩)
      | (go_at_call 44; with_reducible (refine (sized_any n.v n.wd f1.1 f1.2 (by omega) (by omega) _ _ _ HE.out (HB.out.next (Below.next b1.out (new_b _ _))) hl2.out).mono ?_); rintro e w2 ⟨v2, rfl, b2, k2⟩)
      | (go_at_call 43; with_reducible (refine (fits_use HE.out b2.out lx.out).mono ?_); rintro e w3 (⟨hle, v3, rfl, b3, k3⟩ | ⟨hgt, rfl, b3, k3⟩)))
    · go_ret2
      rw [HX.out] at b3 hle
      exact .inl ⟨hle, v3, rfl, b3, hid ((Kp.below (Below.next b1.out (new_b _ _))).trans (k2.out.trans k3.out))⟩
    · go_ret2
      rw [HX.out] at hgt
      exact .inr ⟨hgt, rfl, b3, hid ((Kp.below (Below.next b1.out (new_b _ _))).trans (k2.out.trans k3.out))⟩
  · have q20 := ne_b o0
    by_cases o1 : n.op = 21
    · have HT : Hid (TX N i = [120] ++ dgs n.a ++ [58] ++ dgs n.wd) := hid (by have e := TX_var r g hi (by rw [hn]; exact o1); rw [hn] at e; exact e)
      have HX : Hid (t ++ [120] ++ dgs n.a ++ [58] ++ dgs n.wd = t ++ TX N i) := hid (by rw [HT.out]; simp)
      have hv : 0 ≤ n.a ∧ n.a < 256 := by have := g.vr _ (ndA_mem (isN_nat hi)); rw [hn] at this; exact this o1
      have la := dgs_len (x := n.a) (by omega)
      have lx : Hid ((t ++ [120] ++ dgs n.a ++ [58] ++ dgs n.wd).length ≤ 100000000) := hid (by simp; omega)
      have hl2 : Hid ((t ++ [120]).length ≤ 100000) := hid (by simp; omega)
      have ew := u64_fit hv.1 (show n.a < 18446744073709551616 by omega)
      have q21 : (n.op == 21) = true := by simp [o1]
      clear hE h hD g hft hn lv lw ih HT o0 la
      have O1 := hid o1
      have ha2 : Hid (n.a < 18446744073709551616) := hid (by omega)
      clear o1
      by_cases hle : (t ++ TX N i).length ≤ 4096
      · have HL : Hid ((t ++ [120] ++ dgs n.a ++ [58] ++ dgs n.wd).length ≤ 4096) := hid (by rw [HX.out]; exact hle)
        have HLe := hid hle
        clear hle
        go_enter Tryd.func20, Tryd.ntmps20
        go_upto_region 8 with (go_at_call 42; with_reducible (refine (node_in HD.out hi HN.out).mono ?_); rintro e w1 ⟨rfl, b1⟩)
        have k0 : ∀ W, Below (w1.alloc (.cells #[.int .i64 n.op, .int .i64 n.wd, .int .i64 n.a, .int .i64 n.b, .int .i64 n.c, .int .u64 n.v] 63)).heap.size (w1.alloc (.cells #[.int .i64 n.op, .int .i64 n.wd, .int .i64 n.a, .int .i64 n.b, .int .i64 n.c, .int .u64 n.v] 63)) W → W.heap[w1.heap.size]? = some (.cells #[.int .i64 n.op, .int .i64 n.wd, .int .i64 n.a, .int .i64 n.b, .int .i64 n.c, .int .u64 n.v] 63 (0, 0)) := fun W b => by rw [b.block _ (by simp)]; exact new_same w1 _
        have c0 : (w1.alloc (.cells #[.int .i64 n.op, .int .i64 n.wd, .int .i64 n.a, .int .i64 n.b, .int .i64 n.c, .int .u64 n.v] 63)).drew.cell? ⟨w1.heap.size, 1, none⟩ = some (.int .i64 n.wd) ∧ (w1.alloc (.cells #[.int .i64 n.op, .int .i64 n.wd, .int .i64 n.a, .int .i64 n.b, .int .i64 n.c, .int .u64 n.v] 63)).drew.cell? ⟨w1.heap.size, 2, none⟩ = some (.int .i64 n.a) := ⟨cell_of (new_same w1 _), cell_of (new_same w1 _)⟩
        go_region_held3 (fun W => W.cell? ⟨w1.heap.size, 1, none⟩ = some (.int .i64 n.wd) ∧ W.cell? ⟨w1.heap.size, 2, none⟩ = some (.int .i64 n.a)) (first | exact c0 | exact c3 | exact c4 | exact c5 | exact ⟨cell_of (k0 _ (by go_grown)), cell_of (k0 _ (by go_grown))⟩ | go_keep) (first
          | (refine step_byte rfl _ _ rfl w0 120 t _ rfl (HB.out.next (Below.next b1.out (by go_grown))) _ rfl (by first | simp | simp [go_sem]) LT.out ?_; intro v3 w3 b3 k3; have q3 := k3.out.block (k0 _ (by go_grown)) (by decide); have c3 : w3.cell? ⟨w1.heap.size, 1, none⟩ = some (.int .i64 n.wd) ∧ w3.cell? ⟨w1.heap.size, 2, none⟩ = some (.int .i64 n.a) := ⟨cell_of q3, cell_of q3⟩; have m3 := hid ((Kp.below (w := w) (Below.next b1.out (by go_grown))).trans k3.out))
          | (go_at_call 44; with_reducible (refine (sized_any n.a n.wd hv.1 ha2.out (by omega) (by omega) _ _ _ HE.out b3.out hl2.out).mono ?_); rintro e w4 ⟨v4, rfl, b4, k4⟩; have q4 := k4.out.block q3 (by decide); have c4 : w4.cell? ⟨w1.heap.size, 1, none⟩ = some (.int .i64 n.wd) ∧ w4.cell? ⟨w1.heap.size, 2, none⟩ = some (.int .i64 n.a) := ⟨cell_of q4, cell_of q4⟩)
          | (go_at_call 43; with_reducible (refine (long_no HE.out b4.out HL.out).mono ?_); rintro e w5 ⟨v5, rfl, b5, k5⟩; have q5 := k5.out.block q4 (by decide); have c5 : w5.cell? ⟨w1.heap.size, 1, none⟩ = some (.int .i64 n.wd) ∧ w5.cell? ⟨w1.heap.size, 2, none⟩ = some (.int .i64 n.a) := ⟨cell_of q5, cell_of q5⟩))
        go_wp2_with fail
        go_ret2
        rw [HX.out] at b5
        exact .inl ⟨HLe.out, v5, rfl, b5, hid (m3.out.trans (k4.out.trans k5.out))⟩
      · have HL : Hid (¬ (t ++ [120] ++ dgs n.a ++ [58] ++ dgs n.wd).length ≤ 4096) := hid (by rw [HX.out]; exact hle)
        have HLe := hid hle
        clear hle
        go_enter Tryd.func20, Tryd.ntmps20
        go_upto_region 8 with (go_at_call 42; with_reducible (refine (node_in HD.out hi HN.out).mono ?_); rintro e w1 ⟨rfl, b1⟩)
        have k0 : ∀ W, Below (w1.alloc (.cells #[.int .i64 n.op, .int .i64 n.wd, .int .i64 n.a, .int .i64 n.b, .int .i64 n.c, .int .u64 n.v] 63)).heap.size (w1.alloc (.cells #[.int .i64 n.op, .int .i64 n.wd, .int .i64 n.a, .int .i64 n.b, .int .i64 n.c, .int .u64 n.v] 63)) W → W.heap[w1.heap.size]? = some (.cells #[.int .i64 n.op, .int .i64 n.wd, .int .i64 n.a, .int .i64 n.b, .int .i64 n.c, .int .u64 n.v] 63 (0, 0)) := fun W b => by rw [b.block _ (by simp)]; exact new_same w1 _
        have c0 : (w1.alloc (.cells #[.int .i64 n.op, .int .i64 n.wd, .int .i64 n.a, .int .i64 n.b, .int .i64 n.c, .int .u64 n.v] 63)).drew.cell? ⟨w1.heap.size, 1, none⟩ = some (.int .i64 n.wd) ∧ (w1.alloc (.cells #[.int .i64 n.op, .int .i64 n.wd, .int .i64 n.a, .int .i64 n.b, .int .i64 n.c, .int .u64 n.v] 63)).drew.cell? ⟨w1.heap.size, 2, none⟩ = some (.int .i64 n.a) := ⟨cell_of (new_same w1 _), cell_of (new_same w1 _)⟩
        go_region_held3 (fun W => W.cell? ⟨w1.heap.size, 1, none⟩ = some (.int .i64 n.wd) ∧ W.cell? ⟨w1.heap.size, 2, none⟩ = some (.int .i64 n.a)) (first | exact c0 | exact c3 | exact c4 | exact c5 | exact ⟨cell_of (k0 _ (by go_grown)), cell_of (k0 _ (by go_grown))⟩ | go_keep) (first
          | (refine step_byte rfl _ _ rfl w0 120 t _ rfl (HB.out.next (Below.next b1.out (by go_grown))) _ rfl (by first | simp | simp [go_sem]) LT.out ?_; intro v3 w3 b3 k3; have q3 := k3.out.block (k0 _ (by go_grown)) (by decide); have c3 : w3.cell? ⟨w1.heap.size, 1, none⟩ = some (.int .i64 n.wd) ∧ w3.cell? ⟨w1.heap.size, 2, none⟩ = some (.int .i64 n.a) := ⟨cell_of q3, cell_of q3⟩; have m3 := hid ((Kp.below (w := w) (Below.next b1.out (by go_grown))).trans k3.out))
          | (go_at_call 44; with_reducible (refine (sized_any n.a n.wd hv.1 ha2.out (by omega) (by omega) _ _ _ HE.out b3.out hl2.out).mono ?_); rintro e w4 ⟨v4, rfl, b4, k4⟩; have q4 := k4.out.block q3 (by decide); have c4 : w4.cell? ⟨w1.heap.size, 1, none⟩ = some (.int .i64 n.wd) ∧ w4.cell? ⟨w1.heap.size, 2, none⟩ = some (.int .i64 n.a) := ⟨cell_of q4, cell_of q4⟩)
          | (go_at_call 43; with_reducible (refine (long_yes HE.out b4.out HL.out lx.out).mono ?_); rintro e w5 ⟨rfl, b5, k5⟩; have q5 := k5.out.block q4 (by decide); have c5 : w5.cell? ⟨w1.heap.size, 1, none⟩ = some (.int .i64 n.wd) ∧ w5.cell? ⟨w1.heap.size, 2, none⟩ = some (.int .i64 n.a) := ⟨cell_of q5, cell_of q5⟩))
        go_wp2_with fail
        go_ret2
        exact .inr ⟨Nat.lt_of_not_le HLe.out, rfl, b5, hid (m3.out.trans (k4.out.trans k5.out))⟩
    · have q21 := ne_b o1
      have HG := hid g
      have HI := hid ih
      have O0 := hid o0
      have O1 := hid o1
      clear hE h hD g hft hn lv lw ih o0 o1
      go_enter Tryd.func20, Tryd.ntmps20
      go_wp2_with (first
        | (go_at_call 42; with_reducible (refine (node_in HD.out hi HN.out).mono ?_); rintro e w1 ⟨rfl, b1⟩)
        | (go_at_call 45; with_reducible (refine (made_use HE.out r HG.out hi n HN.out O0.out O1.out HI.out (HB.out.next (Below.next b1.out (new_b _ _))) hl).mono ?_); rintro e w3 (⟨hle, v3, rfl, b3, k3⟩ | ⟨hgt, rfl, b3, k3⟩)))
      · go_ret2
        exact .inl ⟨hle, v3, rfl, b3, hid ((Kp.below (Below.next b1.out (new_b _ _))).trans k3.out)⟩
      · go_ret2
        exact .inr ⟨hgt, rfl, b3, hid ((Kp.below (Below.next b1.out (new_b _ _))).trans k3.out)⟩

theorem term_ok {k : K} {w0 : World} {x y : Addr} {N : List Nd} {P : Nat → Prop} (hE : Env w0 x y) (hD : Dg k w0 N P) (r : Wl N) (i : Nat) (hi : i < N.length) : TermOk k w0 N y i := by
  induction i using Nat.strongRecOn with
  | _ i ih => exact fun v t w h hl => term_step hE hD r hi (fun j hj => ih j hj (by omega)) v t w h hl

end Go.Proofs.YtefielnmlekhaaaDoor
