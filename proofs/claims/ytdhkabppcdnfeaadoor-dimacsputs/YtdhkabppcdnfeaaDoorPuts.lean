/-
  Put, of the program.
-/
import Derived.Test.YtdhkabppcdnfeaaDoorFull
import Derived.Lib.SlBytesConst
import Derived.Lib.AppendStr
import Derived.Lib.ItoaLen
import Derived.Lib.AppendIntMem
import Derived.Laws.IdiomStrings
namespace Go.Proofs.YtdhkabppcdnfeaaDoor
open Go.RowKit
open Go.Lib (decDigits itoa byteCells)
set_option linter.unusedVariables false

theorem bc_app (a b : List UInt8) : byteCells (a ++ b) = byteCells a ++ byteCells b := by simp [byteCells]

/-- A text that the call has made. -/
def Buf (w0 w : World) (v : Value) (t : List UInt8) : Prop := w.ownsRow w0.heap.size 5 1 v t.length (byteCells t) ∧ Below w0.heap.size w0 w

theorem Buf.next {w0 w w' : World} {v : Value} {t : List UInt8} (h : Buf w0 w v t) (b : Below w.heap.size w w') : Buf w0 w' v t :=
  ⟨h.1.kept (grown_below b none) (by cases e : v.ownBlock <;> simp), Below.next h.2 b⟩

/-- AppendInt at a text that the call has made. -/
theorem int_any (w0 : World) (i : Int) (h0 : -9223372036854775808 ≤ i) (h1 : i ≤ 9223372036854775807) (v : Value) (t : List UInt8) (w : World) (hT : PT w0) (h : Buf w0 w v t) (hl : t.length ≤ 100000000) :
    Calls Tryd.prog 14 #[v, .int .i64 i, .int .i64 10] w fun e w' => ∃ v', e = .returned v' ∧ Hid (Buf w0 w' v' (t ++ itoa i)) := by
  refine (Tryd.strconv_AppendInt_10 w0.heap.size t.length i h0 h1 v (byteCells t) w h.1 h.2.size (by omega) ((Lib.tabBelow_of_tabIs hT).on h.2)).mono fun e w' ⟨v', he, own, bel, _⟩ => ?_
  refine ⟨v', he, ?_, h.2.trans bel⟩
  rw [bc_app, List.length_append]; exact own

/-- One byte more. -/
theorem byte_any {w w1 : World} {ops : Array Oper} {rest : List Oper} {o : Oper} {a : Act} {Q : Exit → Act → World → Prop} (hgd : o.guard = none) (s x : Operand)
    (ho : o.op = .call { callee := .builtin .append, args := #[s, x], argTypes := #[39, 39] }) (w0 : World) (b : UInt8) (t : List UInt8) (hw : w = w1.alloc (.cells #[.int .u8 b.toNat] 5)) (v : Value) (hs : a.eval s = v) (own : Buf w0 w1 v t)
    (hx : a.eval x = .slice (some ⟨w1.heap.size, 0, none⟩) 1 1) (hbd : t.length ≤ 100000000)
    (h : ∀ v' w', Hid (Buf w0 w' v' (t ++ [b])) → wpList Tryd.prog ops Q rest (a.put o.dst v') w') : wpList Tryd.prog ops Q (o :: rest) a w := by
  refine append_fresh (w1 := w1) hgd s x 39 5 ho Tryd.underlying39 (.int .u8 0) 1 rfl Tryd.info5 (by omega) (.int .u8 b.toNat) hw rfl w0.heap.size t.length v (byteCells t) hs own.1 hx hbd own.2.size ?_
  intro v' w' h1 h2
  refine h v' w' ⟨?_, own.2.trans ⟨h2.out.os, h2.out.tape, h2.out.output, h2.out.size, fun k hk => h2.out.block k (by have := own.2.size; omega) (fun e => by have := (own.1.lt k e.symm).1; omega)⟩⟩
  rw [bc_app, List.length_append]; exact h1.out

/-- A written text more. -/
theorem text_any {w : World} {ops : Array Oper} {rest : List Oper} {o : Oper} {a : Act} {Q : Exit → Act → World → Prop} (hgd : o.guard = none) (s x : Operand)
    (ho : o.op = .call { callee := .builtin .append, args := #[s, x], argTypes := #[39, 9] }) (w0 : World) (b : List UInt8) (t : List UInt8) (v : Value) (hs : a.eval s = v) (own : Buf w0 w v t)
    (hx : a.eval x = .string ⟨b.toArray⟩) (hbd : t.length + b.length ≤ 100000000)
    (h : ∀ v' w', Hid (Buf w0 w' v' (t ++ b)) → wpList Tryd.prog ops Q rest (a.put o.dst v') w') : wpList Tryd.prog ops Q (o :: rest) a w := by
  obtain ⟨i0, hi, hz0, hz1, hz2⟩ := info_parts Tryd.info5
  have hsz : (⟨b.toArray⟩ : ByteArray).size = b.length := by rfl
  refine Lib.wpList_append_own_string (P := Tryd.prog) (w := w) hgd s x 39 9 ho w0.heap.size 5 i0 Tryd.underlying39 Tryd.underlying9 hi hz0 hz1 hz2 v t.length (byteCells t) hs own.1 ⟨b.toArray⟩ hx (by rw [hsz]; unfold maxLen; omega) (by rw [hsz]; omega) own.2.size ?_
  intro v' w' h1 h2 _
  refine h v' w' ⟨?_, own.2.trans ⟨h2.os, h2.tape, h2.output, h2.size, fun k hk => h2.block k (by have := own.2.size; omega) (fun e => by have := (own.1.lt k e.symm).1; omega)⟩⟩
  rw [bc_app, List.length_append]; exact h1

theorem lits_step {xs : List Int} {k : Nat} {y : Int} (h : xs[k]? = some y) : (xs.take (k + 1)).flatMap litT = (xs.take k).flatMap litT ++ (itoa (numF y) ++ [32]) := by
  rw [List.take_add_one, h]; simp [litT]

theorem lits_le (xs : List Int) (k : Nat) : ((xs.take k).flatMap litT).length ≤ (xs.flatMap litT).length := by
  conv => rhs; rw [← List.take_append_drop k xs]
  rw [List.flatMap_append, List.length_append]; omega

theorem num_fit {y : Int} (h0 : -9223372036854775808 ≤ y) (h1 : y ≤ 9223372036854775807) : -9223372036854775808 ≤ numF y ∧ numF y ≤ 9223372036854775807 := by
  unfold numF; split
  · omega
  · split <;> omega

set_option maxHeartbeats 4000000 in
theorem clauseA_any (w0 : World) (hT : PT w0) (ao : Option Addr) (n cap : Nat) (xs : List Int) (hr : Row w0 ao n cap xs) (v : Value) (t : List UInt8) (w : World) (h : Buf w0 w v t) (hl : t.length + (clT xs).length ≤ 100000000) :
    Calls Tryd.prog 15 #[v, .slice ao n cap] w fun e w' => ∃ v', e = .returned v' ∧ Hid (Buf w0 w' v' (t ++ clT xs)) := by
  have HR := hid hr
  have HB := hid h
  have HT := hid hT
  have hm := hr.max
  have HL : Hid (∀ k, (t ++ (xs.take k).flatMap litT).length + 2 ≤ 100000000) := by
    show ∀ k, _
    intro k
    have := lits_le xs k
    simp only [clT, List.length_append, List.length_cons, List.length_nil] at hl ⊢
    omega
  clear hr h hT hl
  go_enter Tryd.func15, Tryd.ntmps15
  go_wp2
  go_loopw [0, 9] (fun b i wr => ∃ k : Nat, k ≤ n ∧ i = .int .i64 k ∧ Hid (Buf w0 wr b (t ++ (xs.take k).flatMap litT))) (fun _ i _ => n - (intOf i).toNat)
  case atStart => exact ⟨0, Nat.zero_le _, rfl, hid (by simpa using HB.out)⟩
  case round =>
    obtain ⟨k, hk, rfl, hbuf⟩ := hrel
    by_cases hlt : k < n
    · obtain ⟨b, off, y, rfl, hc, hy, y0, y1⟩ := HR.out.at hlt
      have hc1 := (hbuf.out.2.cell (cell_lt hc)).trans hc
      have hl1 := HL.out k
      have HS := hid (lits_step hy.out)
      have HL2 := HL.out (k + 1)
      obtain ⟨f0, f1⟩ := num_fit y0 y1
      have hl2 : (t ++ (xs.take k).flatMap litT ++ itoa (numF y)).length ≤ 100000000 := by
        rw [HS.out] at HL2
        simp only [List.length_append, List.length_cons, List.length_nil] at HL2 ⊢
        omega
      clear hc HL2
      go_wp2_with (first
        | (go_at_call 26; with_reducible (refine (number_any y _ y1).mono ?_); rintro e w1 ⟨rfl, hb1⟩)
        | (go_at_call 14; with_reducible (refine (int_any w0 (numF y) f0 f1 _ _ _ HT.out (hbuf.out.next hb1) (by omega)).mono ?_); rintro e w2 ⟨v2, rfl, hbuf2⟩)
        | (at_builtin; refine byte_any rfl _ _ rfl w0 32 _ rfl _ rfl hbuf2.out rfl hl2 ?_; intro v3 w3 hbuf3))
      go_roundw
      case rel => exact ⟨k + 1, by omega, by go_num, hid (by rw [HS.out]; simpa using hbuf3.out)⟩
      case measure => simp [intOf]; omega
    · have e : (xs.take k) = xs := List.take_of_length_le (by rw [HR.out.1]; omega)
      rw [e] at hbuf
      have hl3 := HL.out k
      rw [e] at hl3
      go_wp2_with (at_builtin; refine text_any rfl _ _ rfl w0 [48, 10] _ _ rfl hbuf.out rfl hl3 ?_; intro v3 w3 hbuf3)
      go_ret
      exact ⟨_, rfl, hid (by rw [clT, ← List.append_assoc]; exact hbuf3.out)⟩

/-! ### Put -/
theorem text_len {v : Nat} {l : List (List Int)} (k : Nat) : (headT v l.length ++ (l.take k).flatMap clT).length ≤ (textT v l).length := by
  unfold textT
  conv => rhs; rw [← List.take_append_drop k l]
  rw [List.flatMap_append, List.take_append_drop, List.length_append, List.length_append, List.length_append]; omega

theorem lines_step {l : List (List Int)} {k : Nat} {c : List Int} (h : l[k]? = some c) : (l.take (k + 1)).flatMap clT = (l.take k).flatMap clT ++ clT c := by
  rw [List.take_add_one, h]; simp

theorem int_kind (vars : Nat) (hv : vars ≤ 1048576) (w1 : World) (hT : PT w1) :
    Calls Tryd.prog 14 #[.slice (some ⟨w1.heap.size, 0, none⟩) 6 6, .int .i64 vars, .int .i64 10] (w1.alloc (.cells #[.int .u8 112, .int .u8 32, .int .u8 99, .int .u8 110, .int .u8 102, .int .u8 32] 5 (6, 7))) fun e w' => ∃ v', e = .returned v' ∧ Hid (Buf w1 w' v' (kindT ++ itoa (vars : Int))) := by
  have b0 : Below w1.heap.size w1 (w1.alloc (.cells #[.int .u8 112, .int .u8 32, .int .u8 99, .int .u8 110, .int .u8 102, .int .u8 32] 5 (6, 7))) := (Below.refl _ _).alloc (Nat.le_refl _) _
  refine (int_full w1.heap.size w1.heap.size vars hv (byteCells kindT) _ (hT.keep b0) (fun j x hj => ?_) (by simp) (by decide)).mono fun e w' ⟨v', he, own, bel⟩ => ⟨v', he, ?_, Below.next b0 bel.out⟩
  · rw [Lib.add_plain, World.cell?_alloc_mark, Nat.zero_add]
    have e : (#[.int .u8 112, .int .u8 32, .int .u8 99, .int .u8 110, .int .u8 102, .int .u8 32] : Array Value) = (byteCells kindT).toArray := rfl
    rw [e, List.getElem?_toArray]; exact hj
  · rw [Go.Lib.itoa_nonneg, bc_app, List.length_append]; exact own.out

theorem chk_split {vars : Int} {l : List (List Int)} (h : chkF vars l = 0) : 0 ≤ vars ∧ vars ≤ 1048576 ∧ l.length ≤ 1048576 ∧ badG vars l = false := by
  by_cases h0 : vars < 0 ∨ 1048576 < vars
  · rw [chk_low l h0] at h; omega
  · by_cases h1 : 1048576 < l.length
    · rw [chk_many (by omega) (by omega) h1] at h; omega
    · refine ⟨by omega, by omega, by omega, ?_⟩
      cases hb : badG vars l
      · rfl
      · rw [chk_bad (by omega) (by omega) h1 hb] at h; omega

theorem buf_string {w0 w : World} {v : Value} {t : List UInt8} (h : Buf w0 w v t) (h0 : 0 < t.length) : ∃ g cap, v = .slice (some ⟨g, 0, none⟩) t.length cap ∧ (convert 39 9 (.slice (some ⟨g, 0, none⟩) t.length cap)).run Tryd.prog w = .ok (.string ⟨t.toArray⟩) w := by
  rcases h.1.2 with ⟨rfl, hn⟩ | ⟨g, cap, cur, rfl, _⟩
  · omega
  · refine ⟨g, cap, rfl, run_convert_bytes_back (P := Tryd.prog) w 39 9 5 ⟨g, 0, none⟩ cap t Tryd.underlying39 Tryd.underlying5 Tryd.underlying9 (fun j hj => h.1.cells (g := g) rfl j _ (by simp [byteCells, hj]))⟩

set_option maxHeartbeats 4000000 in
theorem Put_bad (vars : Int) (ao : Option Addr) (n cap : Nat) (l : List (List Int)) (w : World) (h : Grid w ao n cap l) (hc : ¬ chkF vars l = 0) :
    Calls Tryd.prog 8 #[.int .i64 vars, .slice ao n cap] w fun e w' => e = .returned (.tuple #[.string ⟨#[]⟩, .int .i64 (chkF vars l)]) ∧ Hid (Below w.heap.size w w') := by
  have HG := hid h
  have hc' : (chkF vars l == 0) = false := by simpa using hc
  clear h hc
  go_enter Tryd.func8, Tryd.ntmps8
  go_wp2_with (go_at_call 13; with_reducible (refine (check_any vars _ _ _ l _ HG.out).mono ?_); rintro e w1 ⟨rfl, hb1⟩)
  go_ret2
  exact ⟨rfl, hb1⟩

set_option maxRecDepth 100000 in
set_option maxHeartbeats 4000000 in
theorem Put_ok (vars : Nat) (ao : Option Addr) (n cap : Nat) (l : List (List Int)) (w : World) (h : Grid w ao n cap l) (hT : PT w) (hc : chkF vars l = 0) (hl : (textT vars l).length ≤ 10000000) :
    Calls Tryd.prog 8 #[.int .i64 vars, .slice ao n cap] w fun e w' => e = .returned (.tuple #[.string ⟨(textT vars l).toArray⟩, .int .i64 0]) ∧ Hid (Below w.heap.size w w') := by
  have HG := hid h
  have HT := hid hT
  obtain ⟨v0, v1, l1, _⟩ := chk_split hc
  have hm := h.max
  have HN := hid h.1
  have hc' : (chkF vars l != 0) = false := by simpa using hc
  have hcv := fun W => Lib.run_convert_bytes_const (P := Tryd.prog) W 39 5 #[.int .u8 112, .int .u8 32, .int .u8 99, .int .u8 110, .int .u8 102, .int .u8 32] 6 6 Tryd.underlying39 Tryd.underlying5
  have HL : Hid (∀ k, (headT vars l.length ++ (l.take k).flatMap clT).length ≤ 10000000) := fun k => Nat.le_trans (text_len k) hl
  have HH : Hid ((headT vars l.length).length ≤ 10000000) := by show _ ≤ _; have := HL.out 0; simpa using this
  have HX := hid hl
  have hn1 : n ≤ 1048576 := by rw [← h.1]; exact l1
  have HI : Hid (itoa (vars : Int) = decDigits vars ∧ itoa (n : Int) = decDigits n) := ⟨Go.Lib.itoa_nonneg _, Go.Lib.itoa_nonneg _⟩
  have k1 : (kindT ++ itoa (vars : Int)).length ≤ 100000000 := by
    have := HH.out; rw [HI.out.1]; simp only [headT, List.length_append, List.length_cons, List.length_nil] at this ⊢; omega
  have k2 : (kindT ++ itoa (vars : Int) ++ [32]).length ≤ 100000000 := by
    have := HH.out; rw [HI.out.1]; simp only [headT, List.length_append, List.length_cons, List.length_nil] at this ⊢; omega
  have k3 : (kindT ++ itoa (vars : Int) ++ [32] ++ itoa (n : Int)).length ≤ 100000000 := by
    have := HH.out; rw [HN.out] at this; rw [HI.out.1, HI.out.2]; simp only [headT, List.length_append, List.length_cons, List.length_nil] at this ⊢; omega
  have HE : Hid (kindT ++ itoa (vars : Int) ++ [32] ++ itoa (n : Int) ++ [10] = headT vars l.length) := by show _ = _; rw [HI.out.1, HI.out.2, HN.out]; simp [headT]
  have K0 := hid (show kindT.length ≤ 100000000 by decide)
  have K1 := hid k1
  have K2 := hid k2
  have K3 := hid k3
  clear h hc hT hl k1 k2 k3 l1
  go_enter Tryd.func8, Tryd.ntmps8
  go_wp2_with (first
    | (go_at_call 13; with_reducible (refine (check_any vars _ _ _ l _ HG.out).mono ?_); rintro e w1 ⟨rfl, hb1⟩)
    | (go_at_call 14; first
      | (refine (int_kind vars (by omega) w1 (HT.out.keep hb1)).mono ?_; rintro e w2 ⟨v2, rfl, hbuf2⟩)
      | (refine (int_any w1 n (by omega) (by omega) _ _ _ (HT.out.keep hb1) hbuf3.out K2.out).mono ?_; rintro e w4 ⟨v4, rfl, hbuf4⟩))
    | (at_builtin; first
      | (refine byte_any rfl _ _ rfl w1 32 _ rfl _ rfl hbuf2.out rfl K1.out ?_; intro v3 w3 hbuf3)
      | (refine byte_any rfl _ _ rfl w1 10 _ rfl _ rfl hbuf4.out rfl K3.out ?_; intro v5 w5 hbuf5)))
  rw [HE.out] at hbuf5
  have HT1 := hid (HT.out.keep hb1)
  have HG1 := hid (HG.out.keep hb1)
  clear hcv hbuf2 hbuf3 hbuf4
  go_loopw [7, 31] (fun b i wr => ∃ k : Nat, k ≤ n ∧ i = .int .i64 k ∧ Hid (Buf w1 wr b (headT vars l.length ++ (l.take k).flatMap clT))) (fun _ i _ => n - (intOf i).toNat)
  case atStart => exact ⟨0, Nat.zero_le _, rfl, hid (by simpa using hbuf5.out)⟩
  case round =>
    clear hbuf5
    obtain ⟨k, hk, rfl, hbuf⟩ := hrel
    by_cases hlt : k < n
    · obtain ⟨b, off, a1, m1, c1, ys, rfl, hcc, hy, hr⟩ := HG1.out.at hlt
      have hc1 := (hbuf.out.2.cell (cell_lt hcc)).trans hcc
      have HLk := HL.out (k + 1)
      have HS := hid (lines_step hy.out)
      have hle : (headT vars l.length ++ (l.take k).flatMap clT).length + (clT ys).length ≤ 100000000 := by
        rw [HS.out, ← List.append_assoc, List.length_append] at HLk; omega
      have HLe := hid hle
      clear hcc HLk hle
      go_wp2_with (go_at_call 15; with_reducible (refine (clauseA_any w1 HT1.out _ _ _ ys hr.out _ _ _ hbuf.out HLe.out).mono ?_); rintro e w6 ⟨v6, rfl, hbuf6⟩)
      go_roundw
      case rel => exact ⟨k + 1, by omega, by go_num, hid (by rw [HS.out, ← List.append_assoc]; exact hbuf6.out)⟩
      case measure => simp [intOf]; omega
    · have e : (l.take k) = l := List.take_of_length_le (by rw [HN.out]; omega)
      rw [e] at hbuf
      have hbuf' : Buf w1 wr u7 (textT vars l) := hbuf.out
      obtain ⟨g, cap', rfl, hcv⟩ := buf_string hbuf' (by simp [textT, headT, kindT])
      have HB := hid hbuf'
      clear hbuf' hbuf e
      go_wp2
      go_ret2
      exact ⟨rfl, Below.next hb1 HB.out.2⟩

end Go.Proofs.YtdhkabppcdnfeaaDoor
