/-
  Lists of truths, by bits.
-/
import Derived.Test.YtogjafmpoepgbaaFailing
namespace Go.Proofs.Ytogjafmpoepgbaa
open Go.RowKit
set_option linter.unusedVariables false

theorem ok_iff (vars : Nat) (xss : List (List Int)) (i : Nat) : FailS vars xss i ↔ okF vars xss i = false := by
  simp only [FailS, okF, Bool.not_eq_false', List.any_eq_true]

/-- The place of the first list of truths that is not marked. -/
theorem index_any (vars n g : Nat) (hn : n ≤ 65536) (xss : List (List Int)) (w : World) (h : Marks w g n (FailS vars xss)) :
    Calls Try.prog 26 #[.slice (some ⟨g, 0, none⟩) n n, .bool false] w fun e w' => e = .returned (.int .i64 (firF (okF vars xss) n)) ∧ w' = w := by
  have HM : Hid (Marks w g n (FailS vars xss)) := h
  clear h
  go_enter Try.func26, Try.ntmps26
  go_wp2
  go_loop [8] (fun i => ∃ k : Nat, k ≤ n ∧ i = .int .i64 k ∧ Hid (∀ j, j < k → okF vars xss j = false)) (fun i => n - (intOf i).toNat)
  case atStart => exact ⟨0, Nat.zero_le _, rfl, fun j hj => by omega⟩
  case round =>
    obtain ⟨k, hk, rfl, hno⟩ := hrel
    by_cases hlt : k < n
    · obtain ⟨b, hc, hbb, hfr⟩ := HM.out.at hlt
      cases b
      · have HV : Hid (firF (okF vars xss) n = k) := by
          refine fir_at hlt ?_ hno.out
          have := mt (ok_iff vars xss k).2 (fun h => by have := hbb.out.2 h; simp at this)
          simpa using this
        go_wp2
        go_ret
        exact ⟨by rw [HV.out]; rfl, rfl⟩
      · have HV : Hid (∀ j, j < k + 1 → okF vars xss j = false) := by
          intro j hj
          by_cases e : j = k
          · subst e; exact (ok_iff vars xss j).1 (hbb.out.1 rfl)
          · exact hno.out j (by omega)
        go_wp2
        go_round
        case rel => exact ⟨k + 1, by omega, by go_num, HV⟩
        case measure => simp [intOf]; omega
    · have HV : Hid (firF (okF vars xss) n = -1) := fir_none fun j hj => hno.out j (by omega)
      go_wp2
      go_ret
      exact ⟨by rw [HV.out]; rfl, rfl⟩

/-! ### Two lists of the same truths -/
set_option maxHeartbeats 1000000 in
theorem bools_same (ao bo : Option Addr) (n cap cbp : Nat) (B : Nat → Bool) (w : World) (h : IsBools w ao n cap B) (g : IsBools w bo n cbp B) (hn : n ≤ 65536) :
    Calls Try.prog 16 #[.slice ao n cap, .slice bo n cbp] w fun e w' => e = .returned (.bool true) ∧ Below w.heap.size w w' := by
  have HR : Hid (IsBools w ao n cap B) := h
  have GR : Hid (IsBools w bo n cbp B) := g
  clear h g
  go_enter Try.func16, Try.ntmps16
  go_wp2
  go_loopw [5] (fun i wr => ∃ k : Nat, k ≤ n ∧ i = .int .i64 k ∧ Below w.heap.size w wr) (fun i _ => n - (intOf i).toNat)
  case atStart => exact ⟨0, Nat.zero_le _, rfl, Below.refl _ _⟩
  case round =>
    obtain ⟨k, hk, rfl, hb⟩ := hrel
    by_cases hlt : k < n
    · obtain ⟨b, off, rfl, hc⟩ := (HR.out.keep hb).at hlt
      obtain ⟨c, ogg, rfl, gc⟩ := (GR.out.keep hb).at hlt
      go_wp2
      go_region
      all_goals go_wp2
      all_goals go_roundw
      all_goals first | exact ⟨k + 1, by omega, by go_num, by first | exact hb | exact hb.drew | exact hb.drew.drew⟩ | (simp [intOf]; omega)
    · go_wp2
      go_ret
      exact ⟨rfl, hb⟩

/-! ### truths -/
theorem Marks.put {w : World} {g n q : Nat} {S : Nat → Prop} (h : Marks w g n S) (b : Bool) : Marks (w.setCell ⟨g, q, none⟩ (.bool b)) g n (fun i => if i = q then b = true else S i) := by
  obtain ⟨bs, h, hl, hs⟩ := h
  refine ⟨bs.set q b, h.set b, by rw [List.length_set]; exact hl, fun i hi => ?_⟩
  by_cases e : i = q
  · subst e; simp [hl, hi]
  · have := hs i hi
    simp only [List.getD_eq_getElem?_getD] at this ⊢
    rw [List.getElem?_set_ne (by omega), this]
    simp [e]

theorem Marks.bools {w : World} {g n : Nat} {S : Nat → Prop} {B : Nat → Bool} (h : Marks w g n S) (hn : n ≤ 65536) (hS : ∀ i, i < n → (S i ↔ B i = true)) : IsBools w (some ⟨g, 0, none⟩) n n B := by
  obtain ⟨bs, h, hl, hs⟩ := h
  have := h.bools hl (Nat.le_refl _) (by unfold maxLen; omega)
  rcases this with ⟨h0, _⟩ | ⟨x, hx, h1, h2, h3⟩
  · simp at h0
  · refine .inr ⟨x, hx, h1, h2, fun i hi => ?_⟩
    rw [h3 i hi]
    have : bs.getD i false = B i := by rw [Bool.eq_iff_iff]; exact (hs i hi).trans (hS i hi)
    show some (Value.bool (bs.getD i false)) = _
    rw [this]

theorem bit_num (i k : Nat) (hi : i < 65536) : (bits .and .i64 ((i : Int) / 2 ^ k) 1 == 1) = i.testBit k := by
  have e : ((i : Int) / 2 ^ k) = ((i / 2 ^ k : Nat) : Int) := by simp
  have hl : i / 2 ^ k ≤ i := Nat.div_le_self _ _
  rw [e, show (1 : Int) = ((1 : Nat) : Int) from rfl, i64_and_nat (i / 2 ^ k) 1 (by omega) (by omega), nat_mask1, Nat.testBit_eq_decide_div_mod_eq, Bool.eq_iff_iff]
  simp
  omega

theorem truths_any (vars i : Nat) (hv : vars ≤ 16) (hi : i < 65536) (w : World) :
    Calls Try.prog 27 #[.int .i64 (vars : Int), .int .i64 (i : Int)] w fun e w' => ∃ g, e = .returned (.slice (some ⟨g, 0, none⟩) vars vars) ∧ Hid (IsBools w' (some ⟨g, 0, none⟩) vars vars (fun v => i.testBit v)) ∧ Below w.heap.size w w' := by
  have hmk := run_make_row' (P := Try.prog) 23 4 (.bool false) 1 Try.underlying23 Try.info4 rfl .i64 .i64 vars (by omega) (by omega)
  go_enter Try.func27, Try.ntmps27
  go_wp2
  clear hmk
  go_loopw [11] (fun s wr => ∃ k : Nat, k ≤ vars ∧ s = .int .i64 k ∧ Hid (Marks wr w.heap.size vars (fun v => v < k ∧ i.testBit v = true)) ∧ Below w.heap.size w wr) (fun s _ => vars - (intOf s).toNat)
  case atStart => exact ⟨0, Nat.zero_le _, rfl, (Marks.made w vars).iff (fun i hi => ⟨False.elim, fun h => by omega⟩), one_new _ _⟩
  case round =>
    obtain ⟨k, hk, rfl, hM, hb⟩ := hrel
    by_cases hlt : k < vars
    · obtain ⟨b, hc, hbb, hfr⟩ := hM.out.at hlt
      have hbit := bit_num i k hi
      have HE : Hid (Marks (wr.setCell ⟨w.heap.size, k, none⟩ (.bool (i.testBit k))) w.heap.size vars (fun v => v < k + 1 ∧ i.testBit v = true)) :=
        (hM.out.put (q := k) (i.testBit k)).iff fun j hj => by
          by_cases e : j = k
          · subst e; simp
          · simp only [e, if_false]
            constructor
            · intro h; exact ⟨by omega, h.2⟩
            · intro h; exact ⟨by omega, h.2⟩
      go_wp2
      go_roundw
      case rel => exact ⟨k + 1, by omega, by go_num, HE, hb.setCell (by simp) _⟩
      case measure => simp [intOf]; omega
    · have HX : Hid (IsBools wr (some ⟨w.heap.size, 0, none⟩) vars vars (fun v => i.testBit v)) := hM.out.bools (by omega) fun j hj => ⟨fun h => h.2, fun h => ⟨by omega, h⟩⟩
      go_wp2
      go_ret
      exact ⟨_, rfl, HX, hb⟩

/-! ### The document's own lists: they grow -/
def OwnB (w : World) (B : Nat) (v : Value) (bs : List Bool) : Prop := w.ownsRow B 4 1 v bs.length (bs.map Value.bool)

theorem OwnB.bools {w : World} {B : Nat} {v : Value} {bs : List Bool} (h : OwnB w B v bs) : ∃ ao c, v = .slice ao bs.length c ∧ IsBools w ao bs.length c (fun i => bs.getD i false) := by
  rcases h.2 with ⟨rfl, hn⟩ | ⟨g, cap, cur, rfl, hb, hg, hl, hm, rest⟩
  · rw [hn]; exact ⟨none, 0, rfl, .inl ⟨rfl, rfl, rfl⟩⟩
  · refine ⟨_, _, rfl, .inr ⟨_, rfl, hl, hm, fun i hi => ?_⟩⟩
    have h2 : w.ownsRow B 4 1 (.slice (some ⟨g, 0, none⟩) bs.length cap) bs.length (bs.map Value.bool) := h
    have hc : w.cell? ⟨g, i, none⟩ = some (.bool (bs.getD i false)) := by
      rw [h2.cellAt i (by omega)]; simp [hi]
    rw [← hc]
    congr 1
    by_cases h0 : i = 0
    · subst h0; rfl
    · simp [Addr.add, h0]

theorem append_bool {w : World} {ops : Array Oper} {rest : List Oper} {o : Oper} {a : Act} {Q : Exit → Act → World → Prop} (hgd : o.guard = none) (s x : Operand)
    (ho : o.op = .call { callee := .builtin .append, args := #[s, x], argTypes := #[23, 23] }) (B : Nat) (v : Value) (bs : List Bool) (hs : a.eval s = v) (own : OwnB w B v bs) (b : Bool)
    (g : Nat) (hx : a.eval x = .slice (some ⟨g, 0, none⟩) 1 1) (hcell : w.cell? ⟨g, 0, none⟩ = some (.bool b)) (hbd : bs.length ≤ 5000) (hB : B ≤ w.heap.size)
    (h : ∀ v' w', Hid (OwnB w' B v' (bs ++ [b])) → Hid (Below B w w') → wpList Try.prog ops Q rest (a.put o.dst v') w') : wpList Try.prog ops Q (o :: rest) a w := by
  obtain ⟨i0, hi, hz0, hz1, hz2⟩ := info_parts Try.info4
  refine wpList_append_own (P := Try.prog) (w := w) hgd s x 23 ho B 4 i0 (.bool false) 1 1 Try.underlying23 hi hz0 hz1 hz2 rfl (by decide) v bs.length _ hs own ⟨g, 0, none⟩ 1 1 [.bool b] hx rfl ?_ ?_ (by unfold maxLen; omega) (by omega) hB ?_
  · intro j u hj
    match j, hj with
    | 0, hj => simp at hj; subst hj; simpa [Addr.add] using hcell
  · intro u hu
    rw [List.mem_singleton] at hu; subst hu; rfl
  · intro v' w' h1 h2 _
    have e : OwnB w' B v' (bs ++ [b]) := by
      show World.ownsRow _ _ _ _ _ _ _
      rw [List.length_append, List.map_append]
      exact h1
    exact h v' w' e ((Below.refl B w).grown h2 hB fun k hk => (own.lt k hk).1)

theorem half_bit {i k m : Nat} (h : m = i / 2 ^ k) : ((m : Int) % 2 == 1) = i.testBit k ∧ (m : Int) / 2 = ((m / 2 : Nat) : Int) ∧ m / 2 = i / 2 ^ (k + 1) := by
  refine ⟨?_, by omega, ?_⟩
  · rw [Nat.testBit_eq_decide_div_mod_eq, ← h, Bool.eq_iff_iff]; simp; omega
  · rw [h, Nat.div_div_eq_div_mul, Nat.pow_succ]

set_option maxHeartbeats 2000000 in
theorem rtruths_any (vars i : Nat) (hv : vars ≤ 16) (hi : i < 65536) (w : World) :
    Calls Try.prog 28 #[.int .i64 (vars : Int), .int .i64 (i : Int)] w fun e w' => ∃ ao c, e = .returned (.slice ao vars c) ∧ Hid (IsBools w' ao vars c (fun v => i.testBit v)) ∧ Below w.heap.size w w' := by
  go_enter Try.func28, Try.ntmps28
  go_wp2
  go_loopw [1, 5, 6] (fun s1 v s6 wr => ∃ k m : Nat, k ≤ vars ∧ s1 = .int .i64 m ∧ s6 = .int .i64 k ∧ m < 65536 ∧ Hid (m = i / 2 ^ k) ∧ Hid (OwnB wr w.heap.size v (tbL k i)) ∧ Below w.heap.size w wr) (fun _ _ s _ => vars - (intOf s).toNat)
  case atStart => exact ⟨0, i, Nat.zero_le _, rfl, rfl, hi, by show _ = _; simp, World.ownsRow_nil _ _ _ _, Below.refl _ _⟩
  case round =>
    obtain ⟨k, m, hk, rfl, rfl, hm, HM, hown, hb⟩ := hrel
    by_cases hlt : k < vars
    · obtain ⟨h1, h2, h3⟩ := half_bit HM.out
      have H3 : Hid (m / 2 = i / 2 ^ (k + 1)) := h3
      have HL : (tbL k i).length ≤ 5000 := by rw [tbL_len]; omega
      have hs := hb.size
      have HO : Hid (OwnB (wr.alloc (.cells #[.bool (i.testBit k)] 4)) w.heap.size u5 (tbL k i)) := hown.out.alloc _
      clear h3 h2
      go_wp2_with (at_builtin; refine append_bool rfl (.tmp 12) (.tmp 16) rfl w.heap.size _ _ rfl HO.out (i.testBit k) wr.heap.size rfl (by simp) HL (by simp; omega) ?_; intro v2 w2 hown2 hb2)
      go_roundw
      case rel => exact ⟨k + 1, m / 2, by omega, by first | rfl | simp, by go_num, by omega, H3, by show OwnB _ _ _ _; rw [tbL_succ]; exact hown2.out, (hb.alloc hb.size _).trans hb2.out⟩
      case measure => simp [intOf]; omega
    · have hkk : k = vars := by omega
      subst hkk
      obtain ⟨ao, c, rfl, hB⟩ := hown.out.bools
      rw [tbL_len] at hB hown
      have HB : Hid (IsBools wr ao k c (fun v => i.testBit v)) := by
        rcases hB with hB | ⟨x, hx, e1, e2, e3⟩
        · exact .inl hB
        · exact .inr ⟨x, hx, e1, e2, fun j hj => by rw [e3 j hj]; show some (Value.bool ((tbL k i).getD j false)) = _; rw [tbL_get hj]⟩
      clear hB
      go_wp2
      go_ret
      refine ⟨ao, c, ?_, HB, hb⟩
      show Ending.returned (.slice ao (tbL k i).length c) = _
      rw [tbL_len]

end Go.Proofs.Ytogjafmpoepgbaa
