/-
  A number behind a written text: strconv.AppendInt at a row that is full, whose cells are only read.
-/
import Derived.Test.YtdhkabppcdnfeaaDoorShelfB
import Derived.Test.YtdhkabppcdnfeaaDoorWhole
import Derived.Lib.AppendStr
import Derived.Lib.AppendIntMem
import Derived.Lib.ItoaWalk
import Derived.Lib.ItoaMem
import Derived.Lib.Slices
import Derived.Lib.UnsafeStr
import Derived.BigCall
import Derived.BigGuard
namespace Go.Proofs.YtdhkabppcdnfeaaDoor
open Go.RowKit Go.Sort Go.Lib
set_option linter.unusedVariables false

/-- A new row that holds the old cells and the new ones. -/
theorem new_row (w : World) (B old : Nat) (xs news : List Value) (hB : B ≤ w.heap.size) (h63 : xs.length + news.length ≤ maxLen) :
    (w.drew.alloc (.cells (xs.toArray ++ news.toArray ++ Builtin.zeroCells (Value.int .u8 0).cells (grownCap w (xs.length + news.length) old 5 - (xs.length + news.length))) 5)).ownsRow B 5 1 (.slice (some ⟨w.heap.size, 0, none⟩) (xs.length + news.length) (grownCap w (xs.length + news.length) old 5)) (xs.length + news.length) (xs ++ news) ∧
    w.grownBy (w.drew.alloc (.cells (xs.toArray ++ news.toArray ++ Builtin.zeroCells (Value.int .u8 0).cells (grownCap w (xs.length + news.length) old 5 - (xs.length + news.length))) 5)) none := by
  have hge := grownCap_ge w (xs.length + news.length) old 5
  have hcm := grownCap_le_maxLen w (xs.length + news.length) old 5 h63
  refine ⟨⟨by simp, .inr ⟨w.heap.size, _, _, rfl, hB, heap_alloc_new w.drew _, hge, hcm, ?_, ?_⟩⟩, ⟨rfl, rfl, rfl, by simp, fun k hk _ => heap_alloc_old w.drew _ hk⟩⟩
  · have hz1 : (Value.int IntKind.u8 0).cells.size = 1 := rfl
    simp only [Array.size_append, List.size_toArray, size_zeroCells, hz1]
    omega
  · have e : (xs.length + news.length) * 1 = (xs ++ news).length := by simp
    simp only [Array.toList_append, List.append_assoc]
    rw [← List.append_assoc, e]
    exact List.take_left

/-- A text behind a full row. -/
theorem full_text {w : World} {ops : Array Oper} {rest : List Oper} {o : Oper} {a : Act} {Q : Exit → Act → World → Prop} (hgd : o.guard = none) (s x : Operand)
    (ho : o.op = .call { callee := .builtin .append, args := #[s, x], argTypes := #[39, 9] }) (B g : Nat) (xs : List Value) (b : List UInt8)
    (hs : a.eval s = .slice (some ⟨g, 0, none⟩) xs.length xs.length) (hc : ∀ j u, xs[j]? = some u → w.cell? ((⟨g, 0, none⟩ : Addr).add j) = some u)
    (hx : a.eval x = .string ⟨b.toArray⟩) (h0 : 0 < b.length) (hbd : xs.length + b.length ≤ 100000000) (hB : B ≤ w.heap.size)
    (h : ∀ v' w', Hid (w'.ownsRow B 5 1 v' (xs.length + b.length) (xs ++ byteCells b)) → Hid (w.grownBy w' none) → wpList Tryd.prog ops Q rest (a.put o.dst v') w') : wpList Tryd.prog ops Q (o :: rest) a w := by
  obtain ⟨i0, hi, hz0, hz1, hz2⟩ := info_parts Tryd.info5
  have hsz : (⟨b.toArray⟩ : ByteArray).size = b.length := by rfl
  have hbl : (byteCells b).length = b.length := byteCells_length b
  have hsc : strCells ⟨b.toArray⟩ = byteCells b := rfl
  refine wpList_plain hgd fun K hK => ?_
  have hr := run_append_grow_string (P := Tryd.prog) w 39 9 o.type 5 i0 (.int .u8 0) Tryd.underlying39 Tryd.underlying9 hi hz0 ⟨g, 0, none⟩ xs.length xs.length xs (by rw [hz1]; simp) hc ⟨b.toArray⟩ (by rw [hsz]; omega) (by rw [hsz]; omega) (by rw [hz2, hsz]; exact growslice_fits (by omega) (by omega))
  obtain ⟨n1, n2⟩ := new_row w B xs.length xs (byteCells b) hB (by unfold maxLen; rw [hbl]; omega)
  unfold Oper.wp execOp
  simp only [ho, resolve, invoke, builtin, Sem.run_bind, Sem.run_pure, Result.andThen_ok, List.map_toArray, List.map_cons, List.map_nil, hs, hx, hr]
  rw [hsz, hsc]
  rw [hbl] at n1 n2
  exact hK _ _ (h _ _ n1 n2)

/-- Bytes of an array behind a full row. -/
theorem full_bytes {w : World} {ops : Array Oper} {rest : List Oper} {o : Oper} {a : Act} {Q : Exit → Act → World → Prop} (hgd : o.guard = none) (s x : Operand)
    (ho : o.op = .call { callee := .builtin .append, args := #[s, x], argTypes := #[39, 39] }) (B g : Nat) (xs : List Value) (b : List UInt8)
    (hs : a.eval s = .slice (some ⟨g, 0, none⟩) xs.length xs.length) (hc : ∀ j u, xs[j]? = some u → w.cell? ((⟨g, 0, none⟩ : Addr).add j) = some u)
    (ad : Addr) (c : Nat) (hx : a.eval x = .slice (some ad) b.length c) (hn : ∀ j u, (byteCells b)[j]? = some u → w.cell? (ad.add j) = some u) (h0 : 0 < b.length) (hbd : xs.length + b.length ≤ 100000000) (hB : B ≤ w.heap.size)
    (h : ∀ v' w', Hid (w'.ownsRow B 5 1 v' (xs.length + b.length) (xs ++ byteCells b)) → Hid (w.grownBy w' none) → wpList Tryd.prog ops Q rest (a.put o.dst v') w') : wpList Tryd.prog ops Q (o :: rest) a w := by
  obtain ⟨i0, hi, hz0, hz1, hz2⟩ := info_parts Tryd.info5
  have hbl : (byteCells b).length = b.length := byteCells_length b
  refine wpList_plain hgd fun K hK => ?_
  have hr := run_append_grow (P := Tryd.prog) w 39 o.type 5 i0 (.int .u8 0) Tryd.underlying39 hi hz0 ⟨g, 0, none⟩ xs.length xs.length xs (by rw [hz1]; simp) hc ad b.length c (byteCells b) (by rw [hz1, hbl]; simp) hn (by omega) (by omega) (by rw [hz2]; exact growslice_fits (by omega) (by omega))
  obtain ⟨n1, n2⟩ := new_row w B xs.length xs (byteCells b) hB (by unfold maxLen; rw [hbl]; omega)
  unfold Oper.wp execOp
  simp only [ho, resolve, invoke, builtin, Sem.run_bind, Sem.run_pure, Result.andThen_ok, List.map_toArray, List.map_cons, List.map_nil, hs, hx, hr]
  rw [hbl] at n1 n2
  exact hK _ _ (h _ _ n1 n2)

theorem dec_len {u : Nat} : 0 < (decDigits u).length := List.length_pos_iff.2 (dec_facts u).2.2.1

set_option maxHeartbeats 6400000 in
theorem uint_small (B g u : Nat) (hu : u < 100) (xs : List Value) (w : World) (hc : ∀ j x, xs[j]? = some x → w.cell? ((⟨g, 0, none⟩ : Addr).add j) = some x) (hB : B ≤ w.heap.size) (hl : xs.length ≤ 1000) :
    Calls Tryd.prog 38 #[.slice (some ⟨g, 0, none⟩) xs.length xs.length, .int .u64 u, .int .i64 10] w fun e w' => ∃ v', e = .returned v' ∧ Hid (w'.ownsRow B 5 1 v' (xs.length + (decDigits u).length) (xs ++ byteCells (decDigits u))) ∧ Hid (Below w.heap.size w w') := by
  have hlen : (decDigits u).length ≤ 20 := by
    rw [decDigits_length]
    by_cases h10 : u < 10
    · rw [nDigits_small h10]; omega
    · rw [nDigits_big h10, nDigits_small (show u / 10 < 10 by omega)]; omega
  have HC := hid hc
  have h0 := dec_len (u := u)
  clear hc
  go_enter Tryd.func38, Tryd.ntmps38
  go_wp2_with (first
    | (go_at_call 47; refine (Tryd.internal_strconv_small u hu _).mono ?_; rintro e w' ⟨rfl, rfl⟩)
    | (at_builtin; refine full_text rfl _ _ rfl B g xs (decDigits u) rfl HC.out rfl h0 (by omega) hB ?_; intro v2 w2 h2 g2))
  go_ret
  exact ⟨v2, rfl, h2, below_own g2.out (fun j hj => by cases hj) (Nat.le_refl _)⟩

/-- The library's table of powers of ten, as it is laid. -/
def PT (w : World) : Prop := Lib.TabIs Tryd.prog w "internal/strconv.uint64pow10" .u64 Lib.pow10Tab
theorem PT.keep {w w' : World} (h : PT w) (b : Below w.heap.size w w') : PT w' := Lib.tabBelow_of_tabIs h w' b

set_option maxHeartbeats 12800000 in
set_option maxRecDepth 100000 in
theorem uint_big (B g u : Nat) (hu : 100 ≤ u) (hu2 : u ≤ 1048576) (xs : List Value) (w : World) (hT : PT w) (hc : ∀ j x, xs[j]? = some x → w.cell? ((⟨g, 0, none⟩ : Addr).add j) = some x) (hB : B ≤ w.heap.size) (hl : xs.length ≤ 1000) :
    Calls Tryd.prog 38 #[.slice (some ⟨g, 0, none⟩) xs.length xs.length, .int .u64 u, .int .i64 10] w fun e w' => ∃ v', e = .returned v' ∧ Hid (w'.ownsRow B 5 1 v' (xs.length + (decDigits u).length) (xs ++ byteCells (decDigits u))) ∧ Hid (Below w.heap.size w w') := by
  have hu1 : 1 ≤ u := by omega
  have hu64 : u < 18446744073709551616 := by omega
  have hnd : nDigits u ≤ 20 := by have := numDigits_eq u hu1 hu64; split at this <;> omega
  have h0 := dec_len (u := u)
  have hdl := decDigits_length u
  have hsl : ∀ W, (Instr.sliceAt 104 (.pointer (some ⟨w.heap.size, 0, none⟩)) none (some (.int .i64 (nDigits u : Int))) none).run Tryd.prog W = .ok (.slice (some ⟨w.heap.size, 0, none⟩) (nDigits u) 24) W := fun W => by
    rw [run_sliceAt_array_h W 104 ⟨w.heap.size, 0, none⟩ (by simp [Program.arrayLen, Program.elem, Tryd.underlying104]) .i64 (nDigits u : Int) (by omega) (by simp [Program.arrayLen, Tryd.underlying104]; omega)]
    simp [Program.arrayLen, Program.elem, Tryd.underlying104, Tryd.sizeOf5, slicedAt]
    rfl
  have H0 := hid (holds_zero0 w 104 (nDigits u) (by omega))
  have hfmt := Tryd.internal_strconv_formatBase10 w.heap.size 0 24 u (Array.replicate (nDigits u) 0) (w.alloc (.cells zeros24 104)) H0.out (by rw [Array.size_replicate]; exact lt_pow_nDigits u) hu64 (by rw [Array.size_replicate]; omega)
  rw [Array.size_replicate] at hfmt
  have hfmt2 : Calls Tryd.prog 49 #[.slice (some ⟨w.heap.size, 0, none⟩) (nDigits u) 24, .int .u64 u] (w.alloc (.cells zeros24 104)) fun e w' => e = .returned (.tuple #[]) ∧ Hid (∀ j x, (byteCells (decDigits u))[j]? = some x → w'.cell? ((⟨w.heap.size, 0, none⟩ : Addr).add j) = some x) ∧ Hid (Below w.heap.size w w') := by
    refine hfmt.mono fun e w' ⟨he, k, v', dk, hw, hF⟩ => ⟨he, ?_, ?_⟩
    · show ∀ j x, _
      intro j x hj
      have hjl : j < (decDigits u).length := by
        have h5 := (List.getElem?_eq_some_iff.1 hj).1
        rwa [byteCells_length] at h5
      have e5 : (byteCells (decDigits u))[j]? = some (Value.int .u8 ((decDigits u)[j].toNat : Int)) := by simp [byteCells, hjl]
      rw [e5] at hj
      cases hj
      rw [hw, row_is_numeral hF j hjl, add_plain, World.cell?_drewN]
      exact cell?_putRow (fun (b : UInt8) => Value.int .u8 (b.toNat : Int)) _ w.heap.size 0 _ dk H0.out (by rw [hF.size, Array.size_replicate]) j (by rw [hF.size]; omega)
    · obtain ⟨os, eo⟩ := fin_at w (.cells zeros24 104) dk k 0
      show Below _ _ _
      rw [hw, eo]
      exact below_grow w.heap.size w (Nat.le_refl _) k os
  have HF := hid hfmt2
  have HC := hid hc
  have HT := hid hT
  have iu : (100 : Int) ≤ (u : Int) := by omega
  have ND := hid hnd
  have DL := hid hdl
  clear hfmt hfmt2 hc hT hnd hdl
  go_enter Tryd.func38, Tryd.ntmps38
  go_wp2_with (first
    | (go_at_call 48; refine (Tryd.internal_strconv_numDigits u hu1 hu64 _ (tabIs_alloc HT.out _)).mono ?_; rintro e w' ⟨rfl, rfl⟩)
    | (go_at_call 49; refine HF.out.mono ?_; rintro e w1 ⟨rfl, hd1, hb1⟩)
    | (at_builtin; refine full_bytes rfl _ _ rfl B g xs (decDigits u) rfl (fun j x hj => ((hb1.out.cell (cell_lt (HC.out j x hj))).trans (HC.out j x hj))) ⟨w.heap.size, 0, none⟩ 24 (by rw [DL.out]; rfl) hd1.out h0 (by have := ND.out; have := DL.out; omega) (by have := hb1.out.size; omega) ?_; intro v2 w2 h2 g2))
  go_ret
  exact ⟨v2, rfl, h2, Below.next hb1.out (below_own g2.out (fun j hj => by cases hj) (Nat.le_refl _))⟩

theorem uint_full (B g u : Nat) (hu2 : u ≤ 1048576) (xs : List Value) (w : World) (hT : PT w) (hc : ∀ j x, xs[j]? = some x → w.cell? ((⟨g, 0, none⟩ : Addr).add j) = some x) (hB : B ≤ w.heap.size) (hl : xs.length ≤ 1000) :
    Calls Tryd.prog 38 #[.slice (some ⟨g, 0, none⟩) xs.length xs.length, .int .u64 u, .int .i64 10] w fun e w' => ∃ v', e = .returned v' ∧ Hid (w'.ownsRow B 5 1 v' (xs.length + (decDigits u).length) (xs ++ byteCells (decDigits u))) ∧ Hid (Below w.heap.size w w') := by
  by_cases h : u < 100
  · exact uint_small B g u h xs w hc hB hl
  · exact uint_big B g u (by omega) hu2 xs w hT hc hB hl

set_option maxHeartbeats 6400000 in
theorem int_full (B g u : Nat) (hu2 : u ≤ 1048576) (xs : List Value) (w : World) (hT : PT w) (hc : ∀ j x, xs[j]? = some x → w.cell? ((⟨g, 0, none⟩ : Addr).add j) = some x) (hB : B ≤ w.heap.size) (hl : xs.length ≤ 1000) :
    Calls Tryd.prog 14 #[.slice (some ⟨g, 0, none⟩) xs.length xs.length, .int .i64 u, .int .i64 10] w fun e w' => ∃ v', e = .returned v' ∧ Hid (w'.ownsRow B 5 1 v' (xs.length + (decDigits u).length) (xs ++ byteCells (decDigits u))) ∧ Hid (Below w.heap.size w w') := by
  have HC := hid hc
  have HT := hid hT
  clear hc hT
  have inner : Calls Tryd.prog 25 #[.slice (some ⟨g, 0, none⟩) xs.length xs.length, .int .i64 u, .int .i64 10] w fun e w' => ∃ v', e = .returned v' ∧ Hid (w'.ownsRow B 5 1 v' (xs.length + (decDigits u).length) (xs ++ byteCells (decDigits u))) ∧ Hid (Below w.heap.size w w') := by
    have hw : IntKind.u64.wrap (u : Int) = (u : Int) := by rw [IntKind.wrap_u64]; omega
    go_enter Tryd.func25, Tryd.ntmps25
    go_wp2_with (go_at_call 38; refine (uint_full B g u hu2 xs _ HT.out HC.out hB hl).mono ?_; rintro e w2 ⟨v2, rfl, h2, g2⟩)
    go_ret
    exact ⟨v2, rfl, h2, g2⟩
  have IN := hid inner
  clear inner
  go_enter Tryd.func14, Tryd.ntmps14
  go_wp2_with (go_at_call 25; refine IN.out.mono ?_; rintro e w2 ⟨v2, rfl, h2, g2⟩)
  go_ret
  exact ⟨v2, rfl, h2, g2⟩

end Go.Proofs.YtdhkabppcdnfeaaDoor
