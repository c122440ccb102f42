/-
  appendMade.
-/
import Derived.Test.YtefielnmlekhaaaDoorTw
namespace Go.Proofs.YtefielnmlekhaaaDoor
open Go.RowKit
open Go.Lib (decDigits itoa byteCells)
set_option linter.unusedVariables false
set_option maxRecDepth 20000

/-- One byte more, as a step of a region that draws its order. -/
theorem step_byte {w : World} {ops : Array Oper} {o : Oper} {a : Act} {Kc : Act → World → Prop} {Q : Exit → Act → World → Prop} {G : Prop} (hgd : o.guard = none) (s x : Operand)
    (ho : o.op = .call { callee := .builtin .append, args := #[s, x], argTypes := #[51, 51] }) (w0 : World) (b : UInt8) (t : List UInt8) (v : Value) (hs : a.eval s = v) (own : Buf w0 w v t)
    (q : Nat) (hx : a.eval x = .slice (some ⟨q, 0, none⟩) 1 1) (hc : w.cell? ⟨q, 0, none⟩ = some (.int .u8 b.toNat)) (hbd : t.length ≤ 100000000)
    (h : ∀ v' w', Hid (Buf w0 w' v' (t ++ [b])) → Hid (Kp w w') → Kc (a.put o.dst v') w') :
    if Region.wanted o (yielded ops a.tmps) = true then Oper.wp Tryd.prog o a w Kc Q else G := by
  have hwd : Region.wanted o (yielded ops a.tmps) = true := by simp [Region.wanted, hgd]
  rw [if_pos hwd]
  obtain ⟨i0, hi, hz0, hz1, hz2⟩ := info_parts Tryd.info5
  obtain ⟨v', w', hrun, r1, r2, _⟩ := run_append_own (P := Tryd.prog) w w0.heap.size 51 o.type 5 i0 (.int .u8 0) 1 1 Tryd.underlying51 hi hz0 hz1 hz2 rfl (by decide) v t.length (byteCells t) own.1 ⟨q, 0, none⟩ 1 1 [.int .u8 b.toNat] rfl (by
    intro j u hj
    match j, hj with
    | 0, hj => simp at hj; subst hj; simpa [Addr.add] using hc) (by intro y hy; rw [List.mem_singleton] at hy; subst hy; rfl) (by unfold maxLen; omega) (by omega) own.2.size
  unfold Oper.wp
  simp [execOp, ho, resolve, invoke, builtin, hs, hx, hrun, Result.andThen]
  refine h v' w' ⟨?_, own.2.trans ⟨r2.os, r2.tape, r2.output, r2.size, fun k hk => r2.block k (by have := own.2.size; omega) (fun e => by have := (own.1.lt k e.symm).1; omega)⟩⟩ ((Lib.OthersKept.refl _ _ _).grown r2 (Lib.ownsRow_kind own.1))
  rw [bc_app, List.length_append]; exact r1

/-- A text more, as a step of a region that draws its order. -/
theorem step_text {w : World} {ops : Array Oper} {o : Oper} {a : Act} {Kc : Act → World → Prop} {Q : Exit → Act → World → Prop} {G : Prop} (hgd : o.guard = none) (s x : Operand)
    (ho : o.op = .call { callee := .builtin .append, args := #[s, x], argTypes := #[51, 9] }) (w0 : World) (b : List UInt8) (t : List UInt8) (v : Value) (hs : a.eval s = v) (own : Buf w0 w v t)
    (hx : a.eval x = .string ⟨b.toArray⟩) (hbd : t.length + b.length ≤ 100000000)
    (h : ∀ v' w', Hid (Buf w0 w' v' (t ++ b)) → Hid (Kp w w') → Kc (a.put o.dst v') w') :
    if Region.wanted o (yielded ops a.tmps) = true then Oper.wp Tryd.prog o a w Kc Q else G := by
  have hwd : Region.wanted o (yielded ops a.tmps) = true := by simp [Region.wanted, hgd]
  rw [if_pos hwd]
  obtain ⟨i0, hi, hz0, hz1, hz2⟩ := info_parts Tryd.info5
  have hsz : (⟨b.toArray⟩ : ByteArray).size = b.length := by rfl
  obtain ⟨v', w', hrun, r1, r2, _⟩ := Lib.run_append_own_string (P := Tryd.prog) w w0.heap.size 51 9 o.type 5 i0 Tryd.underlying51 Tryd.underlying9 hi hz0 hz1 hz2 v t.length (byteCells t) own.1 ⟨b.toArray⟩ (by rw [hsz]; unfold maxLen; omega) (by rw [hsz]; omega) own.2.size
  unfold Oper.wp
  simp [execOp, ho, resolve, invoke, builtin, hs, hx, hrun, Result.andThen]
  refine h v' w' ⟨?_, own.2.trans ⟨r2.os, r2.tape, r2.output, r2.size, fun k hk => r2.block k (by have := own.2.size; omega) (fun e => by have := (own.1.lt k e.symm).1; omega)⟩⟩ ((Lib.OthersKept.refl _ _ _).grown r2 (Lib.ownsRow_kind own.1))
  rw [bc_app, List.length_append]; exact r1

theorem one_new (w : World) (v : Value) (T : TypeId) : (w.alloc (.cells #[v] T)).cell? ⟨w.heap.size, 0, none⟩ = some v := cell_of (new_same w _)

theorem Buf.bel {w0 w : World} {v : Value} {t : List UInt8} (h : Buf w0 w v t) : Below w0.heap.size w0 w := h.2

/-- A term in a box. -/
def Bx (w : World) (g : Nat) (n : Nd) : Prop := w.heap[g]? = some (.cells #[.int .i64 n.op, .int .i64 n.wd, .int .i64 n.a, .int .i64 n.b, .int .i64 n.c, .int .u64 n.v] 63 (0, 0))
theorem Bx.kept {w w' : World} {g : Nat} {n : Nd} (h : Bx w g n) (k : Kp w w') : Bx w' g n := k.block h (by decide)
theorem Bx.six {w : World} {g : Nat} {n : Nd} (h : Bx w g n) : w.cell? ⟨g, 0, none⟩ = some (.int .i64 n.op) ∧ w.cell? ⟨g, 1, none⟩ = some (.int .i64 n.wd) ∧ w.cell? ⟨g, 2, none⟩ = some (.int .i64 n.a) ∧
    w.cell? ⟨g, 3, none⟩ = some (.int .i64 n.b) ∧ w.cell? ⟨g, 4, none⟩ = some (.int .i64 n.c) ∧ w.cell? ⟨g, 5, none⟩ = some (.int .u64 n.v) :=
  ⟨cell_of h, cell_of h, cell_of h, cell_of h, cell_of h, cell_of h⟩

/-- So far ts is written; the box is as it was laid. -/
structure Far (w0 w wr : World) (b : Value) (ts : List UInt8) (g : Nat) (n : Nd) : Prop where
  bf : Buf w0 wr b ts
  kp : Kp w wr
  bx : Bx wr g n

theorem Far.next {w0 w wr w' : World} {b : Value} {ts : List UInt8} {g : Nat} {n : Nd} (h : Far w0 w wr b ts g n) (k : Below wr.heap.size wr w') : Far w0 w w' b ts g n :=
  ⟨h.bf.next k, h.kp.trans (Kp.below k), h.bx.kept (Kp.below k)⟩
theorem Far.on {w0 w wr w' : World} {b b' : Value} {ts ts' : List UInt8} {g : Nat} {n : Nd} (h : Far w0 w wr b ts g n) (k : Kp wr w') (q : Buf w0 w' b' ts') : Far w0 w w' b' ts' g n :=
  ⟨q, h.kp.trans k, h.bx.kept k⟩

theorem bx_new (w : World) (n : Nd) : Bx (w.alloc (.cells #[.int .i64 n.op, .int .i64 n.wd, .int .i64 n.a, .int .i64 n.b, .int .i64 n.c, .int .u64 n.v] 63)) w.heap.size n := new_same _ _

def TermOk (k : K) (w0 : World) (N : List Nd) (y : Addr) (i : Int) : Prop := ∀ (v : Value) (t : List UInt8) (w : World), Buf w0 w v t → t.length ≤ 5000 →
  Calls Tryd.prog 20 #[v, .pointer (some ⟨k.DB, 0, none⟩), .int .i64 i] w fun e w' => TermEnd w0 y (t ++ TX N i) w e w'

def h0F (n : Nd) : List UInt8 := 40 :: wordF n.op
theorem head_at (n : Nd) : headF n = h0F n ++ (numsF n).flatMap (fun x => 32 :: dgs x) := rfl
theorem nums_step {xs : List Int} {q : Nat} {x : Int} (h : xs[q]? = some x) : (xs.take (q + 1)).flatMap (fun x => 32 :: dgs x) = (xs.take q).flatMap (fun x => 32 :: dgs x) ++ [32] ++ dgs x := by
  rw [List.take_add_one, h]; simp
theorem parts_step {N : List Nd} {xs : List Int} {q : Nat} {x : Int} (h : xs[q]? = some x) : (xs.take (q + 1)).flatMap (fun a => 32 :: TX N a) = (xs.take q).flatMap (fun a => 32 :: TX N a) ++ [32] ++ TX N x := by
  rw [List.take_add_one, h]; simp

theorem TermOk.run {k : K} {w0 : World} {N : List Nd} {y : Addr} {i : Int} (h : TermOk k w0 N y i) {v : Value} {t : List UInt8} {w : World} (b : Buf w0 w v t) (hl : t.length ≤ 5000) :
    Calls Tryd.prog 20 #[v, .pointer (some ⟨k.DB, 0, none⟩), .int .i64 i] w fun e w' => ((t ++ TX N i).length ≤ 4096 ∧ ∃ v', e = .returned (.tuple #[v', .nilIface]) ∧ Hid (Buf w0 w' v' (t ++ TX N i)) ∧ Hid (Kp w w')) ∨ (4096 < (t ++ TX N i).length ∧ e = .returned (.tuple #[.slice none 0 0, .iface 125 (.pointer (some y))]) ∧ Hid (Below w0.heap.size w0 w') ∧ Hid (Kp w w')) := h v t w b hl
theorem fits_use {w0 : World} {x y : Addr} (hE : Env w0 x y) {v : Value} {t : List UInt8} {w : World} (h : Buf w0 w v t) (hl : t.length ≤ 100000000) : Calls Tryd.prog 43 #[v] w fun e w' => (t.length ≤ 4096 ∧ ∃ v', e = .returned (.tuple #[v', .nilIface]) ∧ Hid (Buf w0 w' v' t) ∧ Hid (Kp w w')) ∨ (4096 < t.length ∧ e = .returned (.tuple #[.slice none 0 0, .iface 125 (.pointer (some y))]) ∧ Hid (Below w0.heap.size w0 w') ∧ Hid (Kp w w')) := fits_any hE v t w h hl

theorem flat_take {α : Type} (f : α → List UInt8) (xs : List α) (q : Nat) : ((xs.take q).flatMap f).length ≤ (xs.flatMap f).length := by
  conv => rhs; rw [← List.take_append_drop q xs]
  rw [List.flatMap_append, List.length_append]; omega

theorem nums_in {N : List Nd} (r : Wl N) (g : Gd N) {i : Nat} (hi : i < N.length) : ∀ x ∈ numsF (ndA N i), 0 ≤ x ∧ x ≤ 64 := by
  have hw := g.wd _ (ndA_mem (isN_nat hi))
  have hs := r.shp g hi
  generalize ndA N i = n at *
  intro x hx
  unfold numsF at hx
  split at hx
  · rename_i e
    simp at hx
    rcases hx with rfl | rfl
    · rcases hs with ⟨e2, _⟩ | ⟨e2, _⟩ | ⟨e2, _⟩ | ⟨e2, _⟩ | ⟨e2, _⟩ | ⟨e2, _, h, _⟩ | ⟨e2, _⟩ | ⟨e2, _⟩
      all_goals omega
    · omega
  · split at hx
    · simp at hx; subst hx; omega
    · simp at hx

theorem nums_le (n : Nd) : (numsF n).length ≤ 2 := by
  unfold numsF
  split
  · simp
  · split <;> simp

set_option maxHeartbeats 16000000 in
theorem mkt_any {k : K} {w0 : World} {x y : Addr} {N : List Nd} (hE : Env w0 x y) (r : Wl N) (g : Gd N) {i : Nat} (hi : i < N.length) (n : Nd) (hn : ndA N i = n) (o0 : n.op ≠ 20) (o1 : n.op ≠ 21) (ih : ∀ j : Nat, j < i → TermOk k w0 N y j)
    (v : Value) (t : List UInt8) (w : World) (h : Buf w0 w v t) (hl : t.length ≤ 5000) :
    Calls Tryd.prog 45 #[v, .pointer (some ⟨k.DB, 0, none⟩), .agg #[.int .i64 n.op, .int .i64 n.wd, .int .i64 n.a, .int .i64 n.b, .int .i64 n.c, .int .u64 n.v]] w fun e w' => TermEnd w0 y (t ++ TX N i) w e w' := by
  have HE := hid hE
  have HB := hid h
  have hft : Ft n := by rw [← hn]; exact g.ft _ (ndA_mem (isN_nat hi))
  have HT : Hid (TX N i = headF n ++ (ksF n).flatMap (fun a => 32 :: TX N a) ++ [41]) := hid (by have e := TX_made r g hi (by rw [hn]; exact o0) (by rw [hn]; exact o1); rw [hn] at e; exact e)
  have HK : Hid (∀ a ∈ ksF n, Ahd i a) := hid (by have e := ks_ahead (r.shp g hi); rw [hn] at e; exact e)
  have HN : Hid (∀ a ∈ numsF n, 0 ≤ a ∧ a ≤ 64) := hid (by have e := nums_in r g hi; rw [hn] at e; exact e)
  have wl := word_len n.op
  have LT : Hid (t.length ≤ 100000000) := hid (by omega)
  have L2 : Hid ((t ++ [40]).length + (wordF n.op).length ≤ 100000000) := hid (by simp; omega)
  have L3 : Hid (∀ q, (t ++ h0F n ++ ((numsF n).take q).flatMap (fun x => 32 :: dgs x)).length ≤ 100000) := hid (fun q => by
    have e1 := flat_take (fun x => 32 :: dgs x) (numsF n) q
    have e2 := nums_len hft
    simp only [h0F, List.length_append, List.length_cons]; omega)
  have HB2 : Hid (∀ q, (t ++ headF n ++ ((ksF n).take q).flatMap (fun a => 32 :: TX N a)).length < (t ++ TX N i).length) := hid (fun q => by
    have e1 := flat_take (fun a => 32 :: TX N a) (ksF n) q
    rw [HT.out]
    simp only [List.length_append, List.length_cons, List.length_nil]; omega)
  have HIH := hid ih
  obtain ⟨ao, c, rfl⟩ := h.shape
  clear hE h hft wl ih hn
  have O0 := hid o0
  have O1 := hid o1
  clear o0 o1
  go_enter Tryd.func45, Tryd.ntmps45
  go_upto_region 1 with fail
  have k0 : ∀ W, Below (w.alloc (.cells #[.int .i64 n.op, .int .i64 n.wd, .int .i64 n.a, .int .i64 n.b, .int .i64 n.c, .int .u64 n.v] 63)).heap.size (w.alloc (.cells #[.int .i64 n.op, .int .i64 n.wd, .int .i64 n.a, .int .i64 n.b, .int .i64 n.c, .int .u64 n.v] 63)) W → W.heap[w.heap.size]? = some (.cells #[.int .i64 n.op, .int .i64 n.wd, .int .i64 n.a, .int .i64 n.b, .int .i64 n.c, .int .u64 n.v] 63 (0, 0)) := fun W b => by rw [b.block _ (by simp)]; exact new_same w _
  have c0 : (w.alloc (.cells #[.int .i64 n.op, .int .i64 n.wd, .int .i64 n.a, .int .i64 n.b, .int .i64 n.c, .int .u64 n.v] 63)).drew.cell? ⟨w.heap.size, 0, none⟩ = some (.int .i64 n.op) := cell_of (new_same _ _)
  go_region_held3 (fun W => W.cell? ⟨w.heap.size, 0, none⟩ = some (.int .i64 n.op)) (first | exact c0 | exact c3 | exact c4 | exact cell_of (new_same w _) | go_keep) (first
      | (refine step_byte rfl _ _ rfl w0 40 t _ rfl (HB.out.next (by go_grown)) _ rfl (by first | simp | simp [go_sem]) LT.out ?_; intro v3 w3 b3 k3; have q3 := k3.out.block (k0 _ (by go_grown)) (by decide); have c3 : w3.cell? ⟨w.heap.size, 0, none⟩ = some (.int .i64 n.op) := cell_of q3; have m3 := hid ((Kp.below (w := w) (by go_grown)).trans k3.out))
      | (refine step_text rfl _ _ rfl w0 (wordF n.op) (t ++ [40]) _ rfl b3.out rfl L2.out ?_; intro v4 w4 b4 k4; have q4 := k4.out.block q3 (by decide); have c4 : w4.cell? ⟨w.heap.size, 0, none⟩ = some (.int .i64 n.op) := cell_of q4)
      | (go_at_call 9; with_reducible (refine (word_any (x := x) (y := y) n.op _ ?_).mono ?_); first | exact HE.out.keep b3.out.bel; rintro e w5 ⟨rfl, rfl⟩))
  have F4 : Hid (Far w0 w w4 v4 (t ++ h0F n) w.heap.size n) := hid ⟨by have := b4.out; simpa [h0F] using this, m3.out.trans k4.out, q4⟩
  clear k0 c0 c3 c4 q3 q4 b3 b4 k3 k4 m3 LT L2
  obtain ⟨s0, s1, s2, s3, s4, s5⟩ := F4.out.bx.six
  go_wp2_with (go_at_call 58; with_reducible (refine (numbers_any n _).mono ?_); rintro e w5 ⟨a5, rfl, n5, b5⟩)
  have F5 := hid (F4.out.next b5.out)
  clear s0 s1 s2 s3 s4 s5 b5 F4
  go_loopw [0, 23] (fun b i wr => ∃ q : Nat, q ≤ (numsF n).length ∧ i = .int .i64 q ∧ Hid (Far w0 w wr b (t ++ h0F n ++ ((numsF n).take q).flatMap (fun x => 32 :: dgs x)) w.heap.size n) ∧ Hid (Nums wr a5 (numsF n))) (fun _ i _ => (numsF n).length - (intOf i).toNat)
  case atStart => exact ⟨0, Nat.zero_le _, rfl, hid (by simpa using F5.out), n5⟩
  case round =>
    clear F5 n5
    obtain ⟨q, hq, rfl, hf, hnm⟩ := hrel
    by_cases hlt : q < (numsF n).length
    · obtain ⟨g5, x5, rfl, hx, hc⟩ := hnm.out.at hlt
      have hlt' : (q : Int) < (numsF n).length := by omega
      have hle2 := nums_le n
      obtain ⟨x0, x1⟩ := HN.out _ (List.mem_of_getElem? hx)
      have HS := hid (nums_step hx)
      have l1 := L3.out q
      have l2 : Hid ((t ++ h0F n ++ ((numsF n).take q).flatMap (fun x => 32 :: dgs x) ++ [32]).length ≤ 100000000) := hid (by rw [List.length_append]; simp only [List.length_cons, List.length_nil]; omega)
      have L1 := hid (Nat.le_trans l1 (show 100000 ≤ 100000000 by omega))
      have B1 := hid hf.out.bf
      clear hx l1
      go_wp2_with (first
        | (at_builtin; refine byte_any rfl _ _ rfl w0 32 _ rfl _ rfl B1.out rfl L1.out ?_; intro v6 w6 b6 k6)
        | (go_at_call 57; with_reducible (refine (nat_any x5 x0 (by omega) _ _ _ HE.out b6.out l2.out).mono ?_); rintro e w7 ⟨v7, rfl, b7, k7⟩))
      go_roundw
      case rel => exact ⟨q + 1, by omega, by go_num, hid (by have := (hf.out.on k6.out b6.out).on k7.out b7.out; rw [HS.out]; simpa using this), hid ((hnm.out.kept k6.out).kept k7.out)⟩
      case measure => simp only [intOf]; omega
    · have e : q = (numsF n).length := by omega
      subst e
      have hlt' : ¬ ((numsF n).length : Int) < (numsF n).length := by omega
      have F6 : Hid (Far w0 w wr u0 (t ++ headF n) w.heap.size n) := hid (by have := hf.out; rw [List.take_length] at this; rw [head_at, ← List.append_assoc]; exact this)
      have l6 : Hid ((t ++ headF n).length ≤ 100000000) := hid (by have := L3.out (numsF n).length; rw [List.take_length] at this; rw [head_at, ← List.append_assoc]; omega)
      have F6b := hid F6.out.bf
      have F6x := hid F6.out.bx
      clear hf hnm L3 HN
      go_wp2_with (first
        | (go_at_call 43; with_reducible (refine (fits_use HE.out F6b.out l6.out).mono ?_); (rintro e w6 (⟨hle, v6, rfl, b6, k6⟩ | ⟨hgt, rfl, b6, k6⟩) <;> obtain ⟨s0, s1, s2, s3, s4, s5⟩ := (F6x.out.kept k6.out).six))
        | (go_at_call 59; with_reducible (refine (parts_any n O0.out O1.out _).mono ?_); rintro e w7 ⟨a7, rfl, n7, b7⟩))
      · have F7 := hid (F6.out.on k6.out b6.out)
        clear F6 F6b F6x l6 b6 k6
        have F8 := hid (F7.out.next b7.out)
        clear s0 s1 s2 s3 s4 s5 b7 F7
        go_loopw [0, 10, 44] (fun b er i wr => ∃ q : Nat, q ≤ (ksF n).length ∧ er = .nilIface ∧ i = .int .i64 q ∧ Hid (Far w0 w wr b (t ++ headF n ++ ((ksF n).take q).flatMap (fun a => 32 :: TX N a)) w.heap.size n) ∧ Hid (Nums wr a7 (ksF n)) ∧ Hid ((t ++ headF n ++ ((ksF n).take q).flatMap (fun a => 32 :: TX N a)).length ≤ 4096)) (fun _ _ i _ => (ksF n).length - (intOf i).toNat)
        case atStart => exact ⟨0, Nat.zero_le _, rfl, rfl, hid (by simpa using F8.out), n7, hid (by simpa using hle)⟩
        case round =>
          clear F8 n7
          obtain ⟨q, hq, rfl, rfl, hf, hnm, hb⟩ := hrel
          by_cases hlt : q < (ksF n).length
          · obtain ⟨g5, x5, rfl, hx, hc⟩ := hnm.out.at hlt
            have hlt' : (q : Int) < (ksF n).length := by omega
            have hle3 := ks_len n
            obtain ⟨x0, x1⟩ := HK.out _ (List.mem_of_getElem? hx)
            obtain ⟨j, rfl⟩ := Int.eq_ofNat_of_zero_le x0
            have hj : j < i := by omega
            have HS := hid (parts_step (N := N) hx)
            have l1 := hb.out
            have l2 : Hid ((t ++ headF n ++ ((ksF n).take q).flatMap (fun a => 32 :: TX N a) ++ [32]).length ≤ 5000) := hid (by rw [List.length_append]; simp only [List.length_cons, List.length_nil]; omega)
            have L1 := hid (Nat.le_trans l1 (show 4096 ≤ 100000000 by omega))
            have B1 := hid hf.out.bf
            have T1 := hid (HIH.out j hj)
            have LL := hid (HB2.out (q + 1))
            clear hx l1 x0 x1 hb
            go_wp2_with (first
              | (at_builtin; refine byte_any rfl _ _ rfl w0 32 _ rfl _ rfl B1.out rfl L1.out ?_; intro v8 w8 b8 k8)
              | (go_at_call 20; with_reducible (refine (T1.out.run b8.out l2.out).mono ?_); rintro e w9 (⟨hle9, v9, rfl, b9, k9⟩ | ⟨hgt9, rfl, b9, k9⟩)))
            · go_roundw
              case rel => exact ⟨q + 1, by omega, rfl, by go_num, hid (by have := (hf.out.on k8.out b8.out).on k9.out b9.out; rw [HS.out]; simpa using this), hid ((hnm.out.kept k8.out).kept k9.out), hid (by rw [HS.out]; simpa using hle9)⟩
              case measure => simp only [intOf]; omega
            · go_ret2
              refine .inr ⟨?_, rfl, b9, hid ((hf.out.kp.trans k8.out).trans k9.out)⟩
              have e1 := LL.out
              rw [HS.out] at e1
              refine Nat.lt_trans hgt9 ?_
              simpa using e1
          · have e : q = (ksF n).length := by omega
            subst e
            have hlt' : ¬ ((ksF n).length : Int) < (ksF n).length := by omega
            have F9 : Hid (Far w0 w wr u0 (t ++ headF n ++ (ksF n).flatMap (fun a => 32 :: TX N a)) w.heap.size n) := hid (by have := hf.out; rw [List.take_length] at this; exact this)
            have l9 : Hid ((t ++ headF n ++ (ksF n).flatMap (fun a => 32 :: TX N a)).length ≤ 100000000) := hid (by have := hb.out; rw [List.take_length] at this; omega)
            have l10 : Hid ((t ++ headF n ++ (ksF n).flatMap (fun a => 32 :: TX N a) ++ [41]).length ≤ 100000000) := hid (by have := hb.out; rw [List.take_length] at this; rw [List.length_append]; simp only [List.length_cons, List.length_nil]; omega)
            have B9 := hid F9.out.bf
            have HX : Hid (t ++ headF n ++ (ksF n).flatMap (fun a => 32 :: TX N a) ++ [41] = t ++ TX N i) := hid (by rw [HT.out]; simp)
            clear hf hnm hb
            go_wp2_with (first
              | (at_builtin; refine byte_any rfl _ _ rfl w0 41 _ rfl _ rfl B9.out rfl l9.out ?_; intro v8 w8 b8 k8)
              | (go_at_call 43; with_reducible (refine (fits_use HE.out b8.out l10.out).mono ?_); rintro e w9 (⟨hle9, v9, rfl, b9, k9⟩ | ⟨hgt9, rfl, b9, k9⟩)))
            · go_ret2
              rw [HX.out] at b9 hle9
              exact .inl ⟨hle9, v9, rfl, b9, hid ((F9.out.kp.trans k8.out).trans k9.out)⟩
            · go_ret2
              rw [HX.out] at hgt9
              exact .inr ⟨hgt9, rfl, b9, hid ((F9.out.kp.trans k8.out).trans k9.out)⟩
      · have e1 := HB2.out 0
        simp only [List.take_zero, List.flatMap_nil, List.append_nil] at e1
        go_ret2
        exact .inr ⟨Nat.lt_trans hgt e1, rfl, b6, hid (F6.out.kp.trans k6.out)⟩

end Go.Proofs.YtefielnmlekhaaaDoor
