/-
  A text that a call writes: one byte, a number, a text more; the listed variables.
-/
import Derived.Test.YtefielnmlekhaaaDoorTp
import Derived.Test.YtefielnmlekhaaaDoorShelf
import Derived.Lib.AppendStr
import Derived.Lib.AppendIntMem
import Derived.Lib.BufferKept
import Derived.Lib.OwnKind
import Derived.Lib.ItoaLen
import Derived.Laws.IdiomStrings
import Derived.Deep.RegionWith
import Derived.BigQuiet
import Derived.LoopTactic
import Derived.OwnWalk
import Derived.Handy
namespace Go.Proofs.YtefielnmlekhaaaDoor
open Go.RowKit
open Go.Lib (decDigits itoa byteCells OthersKept)
set_option linter.unusedVariables false
set_option maxRecDepth 100000

theorem Tryd.info5 : (Tryd.prog.info? 5).map (fun i => (i.zero, i.size, i.bytes)) = some (some (.int .u8 0), 1, 1) := by kernel_rfl

theorem bc_app (a b : List UInt8) : byteCells (a ++ b) = byteCells a ++ byteCells b := by simp [byteCells]

/-- The library's table of powers of ten, as it is laid. -/
def PT (w : World) : Prop := Lib.TabIs Tryd.prog w "internal/strconv.uint64pow10" .u64 Lib.pow10Tab
theorem PT.keep {w w' : World} (h : PT w) (b : Below w.heap.size w w') : PT w' := Lib.tabBelow_of_tabIs h w' b

/-- The project's own variables: the words, and two errors that are not the same. -/
structure Env (w : World) (x y : Addr) : Prop where
  pt : PT w
  wd : ∀ i : Nat, i < 27 → w.cell? ⟨2, i, none⟩ = some (.string ⟨(wdsL.getD i []).toArray⟩)
  e0 : w.cell? ⟨0, 0, none⟩ = some (.iface 125 (.pointer (some x)))
  e1 : w.cell? ⟨1, 0, none⟩ = some (.iface 125 (.pointer (some y)))
  ne : x ≠ y
  bx : ∃ c t, w.heap[x.block]? = some (.cells c t (0, 0))
  by_ : ∃ c t, w.heap[y.block]? = some (.cells c t (0, 0))

theorem Env.keep {w w' : World} {x y : Addr} (h : Env w x y) (b : Below w.heap.size w w') : Env w' x y := by
  refine ⟨h.pt.keep b, fun i hi => (b.cell (cell_lt (h.wd i hi))).trans (h.wd i hi), (b.cell (cell_lt h.e0)).trans h.e0, (b.cell (cell_lt h.e1)).trans h.e1, h.ne, ?_, ?_⟩
  · obtain ⟨c, t, e⟩ := h.bx
    exact ⟨c, t, (b.block _ (blk_lt e)).trans e⟩
  · obtain ⟨c, t, e⟩ := h.by_
    exact ⟨c, t, (b.block _ (blk_lt e)).trans e⟩

/-- A text that the call has made. -/
def Buf (w0 w : World) (v : Value) (t : List UInt8) : Prop := w.ownsRow w0.heap.size 5 1 v t.length (byteCells t) ∧ Below w0.heap.size w0 w

theorem Buf.next {w0 w w' : World} {v : Value} {t : List UInt8} (h : Buf w0 w v t) (b : Below w.heap.size w w') : Buf w0 w' v t :=
  ⟨h.1.kept (grown_below b) (by cases e : v.ownBlock <;> simp), Below.next h.2 b⟩

theorem Buf.nil (w : World) : Buf w w (.slice none 0 0) [] := ⟨⟨rfl, .inl ⟨rfl, rfl⟩⟩, Below.refl _ _⟩
theorem Buf.shape {w0 w : World} {v : Value} {t : List UInt8} (h : Buf w0 w v t) : ∃ ao c, v = .slice ao t.length c := by
  rcases h.1.2 with ⟨rfl, e⟩ | ⟨b, cap, cur, rfl, _⟩
  · exact ⟨none, 0, by rw [e]⟩
  · exact ⟨_, _, rfl⟩

/-- All that is no row of bytes is as it was. -/
def Kp (w w' : World) : Prop := OthersKept 5 none w w'
theorem Kp.refl (w : World) : Kp w w := OthersKept.refl _ _ _
theorem Kp.trans {a b c : World} (h : Kp a b) (k : Kp b c) : Kp a c := OthersKept.trans h k
theorem Kp.below {w w' : World} (b : Below w.heap.size w w') : Kp w w' := (OthersKept.refl _ _ _).below b
theorem Kp.block {w w' : World} (h : Kp w w') {j : Nat} {c : Array Value} {T : TypeId} {fz : Nat × Nat} (e : w.heap[j]? = some (.cells c T fz)) (hT : T ≠ 5) : w'.heap[j]? = some (.cells c T fz) :=
  h j _ e (by simp) (fun c' fz' q => by cases q; exact hT rfl)

/-- AppendInt at a text that the call has made. -/
theorem int_any {w0 : World} {x y : Addr} (i : Int) (h0 : -9223372036854775808 ≤ i) (h1 : i ≤ 9223372036854775807) (v : Value) (t : List UInt8) (w : World) (hE : Env w0 x y) (h : Buf w0 w v t) (hl : t.length ≤ 100000000) :
    Calls Tryd.prog 57 #[v, .int .i64 i, .int .i64 10] w fun e w' => ∃ v', e = .returned v' ∧ Hid (Buf w0 w' v' (t ++ itoa i)) ∧ Hid (Kp w w') := by
  refine (Tryd.strconv_AppendInt_10 w0.heap.size t.length i h0 h1 v (byteCells t) w h.1 h.2.size (by omega) ((Lib.tabBelow_of_tabIs hE.pt).on h.2)).mono fun e w' ⟨v', he, own, bel, k⟩ => ?_
  refine ⟨v', he, ⟨?_, h.2.trans bel⟩, k⟩
  rw [bc_app, List.length_append]; exact own

theorem nat_any {w0 : World} {x y : Addr} (i : Int) (h0 : 0 ≤ i) (h1 : i ≤ 9223372036854775807) (v : Value) (t : List UInt8) (w : World) (hE : Env w0 x y) (h : Buf w0 w v t) (hl : t.length ≤ 100000000) :
    Calls Tryd.prog 57 #[v, .int .i64 i, .int .i64 10] w fun e w' => ∃ v', e = .returned v' ∧ Hid (Buf w0 w' v' (t ++ dgs i)) ∧ Hid (Kp w w') := by
  have e : itoa i = dgs i := by
    obtain ⟨n, rfl⟩ := Int.eq_ofNat_of_zero_le h0
    exact Go.Lib.itoa_nonneg _
  rw [← e]
  exact int_any i (by omega) h1 v t w hE h hl

set_option maxHeartbeats 4000000 in
/-- AppendUint. -/
theorem uint_any {w0 : World} {x y : Addr} (i : Int) (h0 : 0 ≤ i) (h1 : i < 18446744073709551616) (v : Value) (t : List UInt8) (w : World) (hE : Env w0 x y) (h : Buf w0 w v t) (hl : t.length ≤ 100000000) :
    Calls Tryd.prog 56 #[v, .int .u64 i, .int .i64 10] w fun e w' => ∃ v', e = .returned v' ∧ Hid (Buf w0 w' v' (t ++ dgs i)) ∧ Hid (Kp w w') := by
  obtain ⟨n, rfl⟩ := Int.eq_ofNat_of_zero_le h0
  have hT : PT w := (Lib.tabBelow_of_tabIs hE.pt) w h.2
  have inner : Calls Tryd.prog 62 #[v, .int .u64 (n : Int), .int .i64 10] w fun e w' => ∃ v', e = .returned v' ∧ Hid (Buf w0 w' v' (t ++ dgs (n : Int))) ∧ Hid (Kp w w') := by
    refine (Tryd.internal_strconv_AppendUint_10 w0.heap.size t.length n (by omega) v (byteCells t) w h.1 h.2.size (by omega) hT).mono fun e w' ⟨v', he, own, bel, k⟩ => ?_
    refine ⟨v', he, ⟨?_, h.2.trans bel⟩, k⟩
    rw [bc_app, List.length_append]; exact own
  have IN := hid inner
  clear inner hT
  obtain ⟨ao, c, rfl⟩ := h.shape
  go_enter Tryd.func56, Tryd.ntmps56
  go_wp2_with (go_at_call 62; with_reducible (refine IN.out.mono ?_); rintro e w2 ⟨v2, rfl, h2, g2⟩)
  go_ret
  exact ⟨v2, rfl, h2, g2⟩

/-- One value more at the end of a list that the call has made. -/
theorem append_fresh {w w1 : World} {ops : Array Oper} {rest : List Oper} {o : Oper} {a : Act} {Q : Exit → Act → World → Prop} (hgd : o.guard = none) (s x : Operand) (T E : TypeId)
    (ho : o.op = .call { callee := .builtin .append, args := #[s, x], argTypes := #[T, T] }) (hT : Tryd.prog.underlying T = some (.slice E)) (z : Value) (by_ : Nat) (hz : z.cells.size = 1)
    (hE : (Tryd.prog.info? E).map (fun i => (i.zero, i.size, i.bytes)) = some (some z, 1, by_)) (hby : by_ ≤ 24)
    (u : Value) (hw : w = w1.alloc (.cells #[u] E)) (hu : u.oneCell' = true) (B n : Nat) (v : Value) (xs : List Value) (hs : a.eval s = v) (own : w1.ownsRow B E 1 v n xs)
    (hx : a.eval x = .slice (some ⟨w1.heap.size, 0, none⟩) 1 1) (hbd : n ≤ 100000000) (hB : B ≤ w1.heap.size)
    (h : ∀ v' w', Hid (w'.ownsRow B E 1 v' (n + 1) (xs ++ [u])) → Hid (w1.grownBy w' v.ownBlock) → wpList Tryd.prog ops Q rest (a.put o.dst v') w') : wpList Tryd.prog ops Q (o :: rest) a w := by
  subst hw
  obtain ⟨i0, hi, hz0, hz1, hz2⟩ := info_parts hE
  have hmul : (n + 1) * by_ ≤ (n + 1) * 24 := Nat.mul_le_mul_left _ hby
  refine wpList_append_own (P := Tryd.prog) (w := w1.alloc (.cells #[u] E)) hgd s x T ho B E i0 z 1 by_ hT hi hz0 hz1 hz2 hz (by decide) v n xs hs (own.alloc _) ⟨w1.heap.size, 0, none⟩ 1 1 [u] hx rfl ?_ ?_ (by unfold maxLen; omega) (by omega) (by simp; omega) ?_
  · intro j y hj
    match j, hj with
    | 0, hj => simp at hj; subst hj; simp [Addr.add]
  · intro y hy
    rw [List.mem_singleton] at hy; subst hy; exact hu
  · intro v' w' h1 h2 _
    have g1 : w1.grownBy (w1.alloc (.cells #[u] E)) v.ownBlock := World.grownBy_alloc _ _ _
    exact h v' w' h1 ⟨h2.os.trans g1.os, h2.tape.trans g1.tape, h2.output.trans g1.output, Nat.le_trans g1.size h2.size, fun j hj hn => (h2.block j (Nat.lt_of_lt_of_le hj g1.size) hn).trans (g1.block j hj hn)⟩

/-- One byte more. -/
theorem byte_any {w w1 : World} {ops : Array Oper} {rest : List Oper} {o : Oper} {a : Act} {Q : Exit → Act → World → Prop} (hgd : o.guard = none) (s x : Operand)
    (ho : o.op = .call { callee := .builtin .append, args := #[s, x], argTypes := #[51, 51] }) (w0 : World) (b : UInt8) (t : List UInt8) (hw : w = w1.alloc (.cells #[.int .u8 b.toNat] 5)) (v : Value) (hs : a.eval s = v) (own : Buf w0 w1 v t)
    (hx : a.eval x = .slice (some ⟨w1.heap.size, 0, none⟩) 1 1) (hbd : t.length ≤ 100000000)
    (h : ∀ v' w', Hid (Buf w0 w' v' (t ++ [b])) → Hid (Kp w1 w') → wpList Tryd.prog ops Q rest (a.put o.dst v') w') : wpList Tryd.prog ops Q (o :: rest) a w := by
  refine append_fresh (w1 := w1) hgd s x 51 5 ho Tryd.underlying51 (.int .u8 0) 1 rfl Tryd.info5 (by omega) (.int .u8 b.toNat) hw rfl w0.heap.size t.length v (byteCells t) hs own.1 hx hbd own.2.size ?_
  intro v' w' h1 h2
  refine h v' w' ⟨?_, own.2.trans ⟨h2.out.os, h2.out.tape, h2.out.output, h2.out.size, fun k hk => h2.out.block k (by have := own.2.size; omega) (fun e => by have := (own.1.lt k e.symm).1; omega)⟩⟩ ((OthersKept.refl _ _ _).grown h2.out (Lib.ownsRow_kind own.1))
  rw [bc_app, List.length_append]; exact h1.out

/-- A text more. -/
theorem text_any {w : World} {ops : Array Oper} {rest : List Oper} {o : Oper} {a : Act} {Q : Exit → Act → World → Prop} (hgd : o.guard = none) (s x : Operand)
    (ho : o.op = .call { callee := .builtin .append, args := #[s, x], argTypes := #[51, 9] }) (w0 : World) (b : List UInt8) (t : List UInt8) (v : Value) (hs : a.eval s = v) (own : Buf w0 w v t)
    (hx : a.eval x = .string ⟨b.toArray⟩) (hbd : t.length + b.length ≤ 100000000)
    (h : ∀ v' w', Hid (Buf w0 w' v' (t ++ b)) → Hid (Kp w w') → wpList Tryd.prog ops Q rest (a.put o.dst v') w') : wpList Tryd.prog ops Q (o :: rest) a w := by
  obtain ⟨i0, hi, hz0, hz1, hz2⟩ := info_parts Tryd.info5
  have hsz : (⟨b.toArray⟩ : ByteArray).size = b.length := by rfl
  refine Lib.wpList_append_own_string (P := Tryd.prog) (w := w) hgd s x 51 9 ho w0.heap.size 5 i0 Tryd.underlying51 Tryd.underlying9 hi hz0 hz1 hz2 v t.length (byteCells t) hs own.1 ⟨b.toArray⟩ hx (by rw [hsz]; unfold maxLen; omega) (by rw [hsz]; omega) own.2.size ?_
  intro v' w' h1 h2 _
  refine h v' w' ⟨?_, own.2.trans ⟨h2.os, h2.tape, h2.output, h2.size, fun k hk => h2.block k (by have := own.2.size; omega) (fun e => by have := (own.1.lt k e.symm).1; omega)⟩⟩ ((OthersKept.refl _ _ _).grown h2 (Lib.ownsRow_kind own.1))
  rw [bc_app, List.length_append]; exact h1

theorem buf_string {w0 w : World} {v : Value} {t : List UInt8} (h : Buf w0 w v t) (h0 : 0 < t.length) : ∃ g cap, v = .slice (some ⟨g, 0, none⟩) t.length cap ∧ (convert 51 9 (.slice (some ⟨g, 0, none⟩) t.length cap)).run Tryd.prog w = .ok (.string ⟨t.toArray⟩) w := by
  rcases h.1.2 with ⟨rfl, hn⟩ | ⟨g, cap, cur, rfl, _⟩
  · omega
  · refine ⟨g, cap, rfl, run_convert_bytes_back (P := Tryd.prog) w 51 9 5 ⟨g, 0, none⟩ cap t Tryd.underlying51 Tryd.underlying5 Tryd.underlying9 (fun j hj => h.1.cells (g := g) rfl j _ (by simp [byteCells, hj]))⟩

set_option maxHeartbeats 4000000 in
/-- A number, a colon, a width. -/
theorem sized_any {w0 : World} {x y : Addr} (i j : Int) (h0 : 0 ≤ i) (h1 : i < 18446744073709551616) (j0 : 0 ≤ j) (j1 : j ≤ 9223372036854775807) (v : Value) (t : List UInt8) (w : World) (hE : Env w0 x y) (h : Buf w0 w v t) (hl : t.length ≤ 100000) :
    Calls Tryd.prog 44 #[v, .int .u64 i, .int .i64 j] w fun e w' => ∃ v', e = .returned v' ∧ Hid (Buf w0 w' v' (t ++ dgs i ++ [58] ++ dgs j)) ∧ Hid (Kp w w') := by
  have l1 := dgs_len h1
  have L1 : Hid ((t ++ dgs i).length ≤ 100000000) := hid (by simp; omega)
  have L2 : Hid ((t ++ dgs i ++ [58]).length ≤ 100000000) := hid (by simp; omega)
  have HE := hid hE
  have HB := hid h
  clear hE l1
  obtain ⟨ao, c, rfl⟩ := h.shape
  clear h
  go_enter Tryd.func44, Tryd.ntmps44
  go_wp2_with (first
    | (go_at_call 56; with_reducible (refine (uint_any i h0 h1 _ t _ HE.out HB.out (by omega)).mono ?_); rintro e w2 ⟨v2, rfl, b2, k2⟩)
    | (at_builtin; refine byte_any rfl _ _ rfl w0 58 (t ++ dgs i) rfl _ rfl b2.out rfl L1.out ?_; intro v3 w3 b3 k3)
    | (go_at_call 57; with_reducible (refine (nat_any j j0 j1 _ _ _ HE.out b3.out L2.out).mono ?_); rintro e w4 ⟨v4, rfl, b4, k4⟩))
  go_ret
  exact ⟨v4, rfl, b4, hid ((k2.out.trans k3.out).trans k4.out)⟩

end Go.Proofs.YtefielnmlekhaaaDoor
