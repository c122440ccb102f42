/-
  Lists that grow by append; Sorted: by rising numbers, each once.
-/
import Derived.Test.YtdkkdfgaponlbaaRead
import Derived.Laws.AppendOwnNone
import Derived.Laws.OwnMore
import Derived.Laws.CopyOwn
import Derived.OwnWalk
namespace Go.Proofs.Ytdkkdfgaponlbaa
open Go.RowKit
set_option linter.unusedVariables false

theorem Try.info3 : (Try.prog.info? 3).map (fun i => (i.zero, i.size, i.bytes)) = some (some (.int .i64 0), 1, 8) := by kernel_rfl

theorem row_cells {w : World} {ao : Option Addr} {n cap : Nat} {xs : List Int} (h : Row w ao n cap xs) (h0 : 0 < n) :
    ∃ ad, ao = some ad ∧ ∀ j v, (xs.map (Value.int .i64))[j]? = some v → w.cell? (ad.add j) = some v := by
  obtain ⟨b, off, e, hc⟩ := h.2.2.2.2.2 h0
  refine ⟨_, e, fun j v hv => ?_⟩
  have hj : j < xs.length := by
    have := (List.getElem?_eq_some_iff.1 hv).1; simpa using this
  have := hc j (by rw [← h.1]; exact hj)
  rw [List.getElem?_map, List.getElem?_eq_getElem hj] at hv
  simp at hv
  rw [show xs.getD j 0 = xs[j] by simp [hj], hv] at this
  by_cases h0 : j = 0
  · subst h0; simpa [Addr.add] using this
  · simpa [Addr.add, h0] using this

theorem ints_one (xs : List Int) : ∀ v ∈ xs.map (Value.int .i64), v.oneCell' = true := by
  intro v hv
  obtain ⟨x, _, rfl⟩ := List.mem_map.1 hv
  rfl

/-- The value is a slice of the call's own, at a row from block B on, and holds xs. -/
def Own (w : World) (B : Nat) (v : Value) (xs : List Int) : Prop := w.ownsRow B 3 1 v xs.length (xs.map (Value.int .i64)) ∧ Fit xs

theorem Own.nil (w : World) (B : Nat) : Own w B (.slice none 0 0) [] := ⟨World.ownsRow_nil _ _ _ _, fun x hx => by simp at hx⟩

theorem Own.row {w : World} {B : Nat} {v : Value} {xs : List Int} (h : Own w B v xs) : ∃ ao c, v = .slice ao xs.length c ∧ Row w ao xs.length c xs := by
  rcases h.1.2 with ⟨rfl, hn⟩ | ⟨g, cap, cur, rfl, hb, hg, hl, hm, hs, ht⟩
  · refine ⟨none, 0, by rw [hn], rfl, by omega, by unfold maxLen; omega, fun _ => rfl, h.2, fun h0 => by omega⟩
  · refine ⟨_, cap, rfl, rfl, hl, hm, fun e => by simp at e, h.2, fun _ => ⟨g, 0, rfl, fun j hj => ?_⟩⟩
    rw [Nat.zero_add, h.1.cellAt j (by omega)]
    simp [hj]

theorem Own.shape {w : World} {B : Nat} {v : Value} {xs : List Int} (h : Own w B v xs) : ∃ ao n c, v = .slice ao n c ∧ Hid (Row w ao n c xs) := by
  obtain ⟨ao, c, e, r⟩ := h.row
  exact ⟨ao, _, c, e, r⟩

theorem Row.take {w : World} {ao : Option Addr} {n c j : Nat} {xs : List Int} (h : Row w ao n c xs) (hj : j ≤ n) : Row w ao j c (xs.take j) := by
  refine ⟨by rw [List.length_take, h.1]; omega, by have := h.2.1; omega, h.2.2.1, h.2.2.2.1, fun x hx => h.2.2.2.2.1 x (List.mem_of_mem_take hx), fun h0 => ?_⟩
  obtain ⟨b, o, e, hc⟩ := h.2.2.2.2.2 (by omega)
  refine ⟨b, o, e, fun i hi => ?_⟩
  rw [hc i (by omega)]
  simp [hi]

theorem Row.drop {w : World} {ao bo : Option Addr} {n c j n' c' : Nat} {xs : List Int} (h : Row w ao n c xs) (hj : j ≤ n) (hn : n' = n - j) (hcc : c' = c - j) (h0 : bo = none → c' = 0) (hb : ∀ b o, ao = some ⟨b, o, none⟩ → 0 < n' → bo = some ⟨b, o + j, none⟩) :
    Row w bo n' c' (xs.drop j) := by
  subst hn hcc
  refine ⟨by rw [List.length_drop, h.1], by have := h.2.1; omega, by have := h.2.2.1; omega, h0, fun x hx => h.2.2.2.2.1 x (List.mem_of_mem_drop hx), fun hp => ?_⟩
  obtain ⟨b, o, e, hc⟩ := h.2.2.2.2.2 (by omega)
  refine ⟨b, o + j, hb b o e hp, fun i hi => ?_⟩
  rw [Nat.add_assoc, hc (j + i) (by omega)]
  simp [List.getElem?_drop]

theorem Own.alloc {w : World} {B : Nat} {v : Value} {xs : List Int} (h : Own w B v xs) (o : Obj) : Own (w.alloc o) B v xs := ⟨h.1.alloc o, h.2⟩

theorem fit_append {xs ys : List Int} (h : Fit xs) (g : Fit ys) : Fit (xs ++ ys) := fun x hx => (List.mem_append.1 hx).elim (h x) (g x)

theorem append_ints {w : World} {ops : Array Oper} {rest : List Oper} {o : Oper} {a : Act} {Q : Exit → Act → World → Prop} (hgd : o.guard = none) (s x : Operand)
    (ho : o.op = .call { callee := .builtin .append, args := #[s, x], argTypes := #[26, 26] }) (B : Nat) (v : Value) (xs ys : List Int) (hs : a.eval s = v) (own : Own w B v xs)
    (ao : Option Addr) (m c : Nat) (hx : a.eval x = .slice ao m c) (row : Row w ao m c ys) (hbd : xs.length + m ≤ 1000000) (hB : B ≤ w.heap.size)
    (h : ∀ v' w', Hid (Own w' B v' (xs ++ ys)) → Hid (Below B w w') → wpList Try.prog ops Q rest (a.put o.dst v') w') : wpList Try.prog ops Q (o :: rest) a w := by
  obtain ⟨i0, hi, hz0, hz1, hz2⟩ := info_parts Try.info3
  have hbel : ∀ {w'}, w.grownBy w' v.ownBlock → Below B w w' := fun hg => (Below.refl B w).grown hg hB fun k hk => (own.1.lt k hk).1
  by_cases h0 : m = 0
  · have e : ys = [] := List.eq_nil_of_length_eq_zero (row.1.trans h0)
    subst e h0
    cases ao with
    | none =>
      have ec := row.2.2.2.1 rfl
      subst ec
      refine wpList_append_own_none hgd s x 26 ho B 3 i0 1 Try.underlying26 hi v xs.length _ hs own.1 hx ?_
      exact h v w (show Own w B v (xs ++ []) by rw [List.append_nil]; exact own) (Below.refl _ _)
    | some ad =>
      refine wpList_append_own (P := Try.prog) (w := w) hgd s x 26 ho B 3 i0 (.int .i64 0) 1 8 Try.underlying26 hi hz0 hz1 hz2 rfl (by decide) v xs.length _ hs own.1 ad 0 c [] hx rfl (fun j u hj => by simp at hj) (fun u hu => by simp at hu) (by unfold maxLen; omega) (by omega) hB ?_
      intro v' w' h1 h2 _
      refine h v' w' (show Own w' B v' (xs ++ []) from ?_) (hbel h2)
      rw [List.append_nil]
      exact ⟨by simpa using h1, own.2⟩
  · obtain ⟨ad, rfl, hc⟩ := row_cells row (by omega)
    refine wpList_append_own (P := Try.prog) (w := w) hgd s x 26 ho B 3 i0 (.int .i64 0) 1 8 Try.underlying26 hi hz0 hz1 hz2 rfl (by decide) v xs.length _ hs own.1 ad m c (ys.map (Value.int .i64)) hx (by rw [List.length_map, row.1, Nat.mul_one]) hc (ints_one ys) (by unfold maxLen; omega) (by omega) hB ?_
    intro v' w' h1 h2 _
    refine h v' w' (show Own w' B v' (xs ++ ys) from ⟨?_, fit_append own.2 row.2.2.2.2.1⟩) (hbel h2)
    rw [List.length_append, row.1, List.map_append]
    exact h1

/-- A new block of one number. -/
theorem row_one (w : World) (y : Int) (h0 : -9223372036854775808 ≤ y) (h1 : y ≤ 9223372036854775807) : Row (w.alloc (.cells #[.int .i64 y] 3)) (some ⟨w.heap.size, 0, none⟩) 1 1 [y] := by
  refine ⟨rfl, Nat.le_refl _, by unfold maxLen; omega, fun h => by simp at h, fun x hx => by rw [List.mem_singleton] at hx; subst hx; exact ⟨h0, h1⟩, fun _ => ⟨_, _, rfl, fun j hj => ?_⟩⟩
  obtain rfl : j = 0 := by omega
  simp

theorem Row.more {w w' : World} {ao : Option Addr} {n cap B : Nat} {xs : List Int} (h : Row w ao n cap xs) (b : Below B w w') (hB : w.heap.size ≤ B) : Row w' ao n cap xs := h.keep (b.mono hB)

theorem rise_skip {xs : List Int} {k : Nat} {y : Int} (hy : xs[k]? = some y) (h : hasF (rise (xs.take k)) y = true) : rise (xs.take (k + 1)) = rise (xs.take k) := by
  rw [List.take_add_one, hy]
  show rise (xs.take k ++ [y]) = _
  rw [rise_snoc]
  exact ins_mem (up_rise _) ((by simpa [hasF] using h) : y ∈ rise (xs.take k))

theorem rise_len (xs : List Int) (k : Nat) : (rise (xs.take k)).length ≤ xs.length := by
  have := len_rise (xs.take k); simp at this; omega

theorem drop_at {r : List Int} {j : Nat} {z y : Int} (hz : r[j]? = some z) (h : ∀ x ∈ r.drop (j + 1), y < x) (hzy : y < z) : ∀ x ∈ r.drop j, y < x := by
  obtain ⟨hj, e⟩ := List.getElem?_eq_some_iff.1 hz
  intro x hx
  rw [List.drop_eq_getElem_cons hj] at hx
  rcases List.mem_cons.1 hx with rfl | hx
  · rw [e]; exact hzy
  · exact h x hx

theorem take_at {r : List Int} {j : Nat} {z y : Int} (hr : r.Pairwise (· < ·)) (hz : r[j]? = some z) (hzy : z < y) : ∀ x ∈ r.take (j + 1), x < y := by
  obtain ⟨hj, e⟩ := List.getElem?_eq_some_iff.1 hz
  intro x hx
  obtain ⟨i, hi, rfl⟩ := List.mem_iff_getElem.1 hx
  have hi' : i < j + 1 := by simp at hi; omega
  rw [List.getElem_take]
  rw [List.pairwise_iff_getElem] at hr
  by_cases h : i = j
  · subst h; rw [e]; exact hzy
  · have := hr i j (by omega) hj (by omega); omega

theorem rise_put {xs : List Int} {k : Nat} {y : Int} (hy : xs[k]? = some y) (j : Nat) (ha : ∀ x ∈ (rise (xs.take k)).take j, x < y) (hb : ∀ x ∈ (rise (xs.take k)).drop j, y < x) :
    rise (xs.take (k + 1)) = ([] ++ (rise (xs.take k)).take j) ++ [y] ++ (rise (xs.take k)).drop j := by
  rw [List.take_add_one, hy]
  show rise (xs.take k ++ [y]) = _
  rw [rise_snoc, ins_at (up_rise _) j ha hb, List.nil_append]

set_option maxHeartbeats 2000000 in
theorem sorted_any (ao : Option Addr) (n cap : Nat) (xs : List Int) (w : World) (h : Row w ao n cap xs) (hn : n ≤ 100000) :
    Calls Try.prog 27 #[.slice ao n cap] w fun e w' => ∃ bo m c, e = .returned (.slice bo m c) ∧ Hid (Row w' bo m c (rise xs)) ∧ Below w.heap.size w w' := by
  have HR : Hid (Row w ao n cap xs) := h
  have hm := h.max
  clear h
  go_enter Try.func27, Try.ntmps27
  go_wp2
  go_loopw [3, 4, 5, 6] (fun v i _ _ wr => ∃ k : Nat, k ≤ n ∧ i = .int .i64 k ∧ (∃ bo m c, v = .slice bo m c ∧ Hid (Row wr bo m c (rise (xs.take k)))) ∧ Below w.heap.size w wr) (fun _ i _ _ _ => n - (intOf i).toNat)
  case atStart => exact ⟨0, Nat.zero_le _, rfl, ⟨none, 0, 0, rfl, rfl, Nat.le_refl _, by unfold maxLen; omega, fun _ => rfl, fun x hx => by simp [rise] at hx, fun h => by omega⟩, Below.refl _ _⟩
  case round =>
    obtain ⟨k, hk, rfl, ⟨bo, m, c, rfl, hrow⟩, hb⟩ := hrel
    by_cases hlt : k < n
    · obtain ⟨b, off, y, rfl, hc, hy, y0, y1⟩ := (HR.out.keep hb).at hlt
      have hmm : m ≤ 100000 := by have := rise_len xs k; have := hrow.out.1; have := HR.out.1; omega
      cases he : hasF (rise (xs.take k)) y
      · go_wp2_with (go_at_call 38; with_reducible (refine (rhas_any _ _ _ _ _ _ hrow.out).mono ?_); rintro e w1 ⟨rfl, rfl⟩)
        go_loopw [5] (fun t wt => ∃ j : Nat, j ≤ m ∧ t = .int .i64 j ∧ Hid (∀ x ∈ (rise (xs.take k)).drop j, y < x) ∧ Below w1.heap.size w1 wt) (fun t _ => (intOf t).toNat)
        case atStart => exact ⟨m, Nat.le_refl _, rfl, by show ∀ x ∈ _, _; rw [List.drop_of_length_le (by rw [hrow.out.1]; omega)]; simp, Below.refl _ _⟩
        case round =>
          obtain ⟨j, hj, rfl, hbig, hb2⟩ := hrel
          have hrow2 := hrow.out.keep hb2
          have hs2 := hb2.size
          have hc2 := (hb2.cell (cell_lt hc)).trans hc
          have hmc := hrow.out.2.1
          rcases j with _ | j
          · rcases bo with _ | ad
            · have ec := hrow.out.2.2.2.1 rfl
              have em : m = 0 := by omega
              subst ec em
              clear hrow2
              have HE : Hid (rise (xs.take (k + 1)) = ([] ++ (rise (xs.take k)).take 0) ++ [y] ++ (rise (xs.take k)).drop 0) := rise_put hy.out 0 (by simp) hbig.out
              go_wp2
              go_region
              all_goals go_wp2_with (first
                | (at_builtin; refine append_ints rfl (.tmp 37) (.tmp 40) rfl w1.heap.size _ [] ((rise (xs.take k)).take 0) rfl (Own.nil _ _) _ _ _ rfl ((hrow.out.keep hb2.drew).take (by omega)) (by simp <;> omega) hs2 ?_; intro v2 w2 own2 hb3; have hb4 := hb2.drew.trans hb3.out; have hc3 := (hb4.cell (cell_lt hc)).trans hc; clear hb3)
                | (at_builtin; refine append_ints rfl (.tmp 42) (.tmp 47) rfl w1.heap.size _ _ [y] rfl (own2.out.alloc _) _ 1 1 rfl (row_one _ y y0 y1) (by simp <;> omega) (by have := hb4.size; simp; omega) ?_; intro v3 w3 own3 hb5; have hb6 := (hb4.alloc hb4.size _).trans hb5.out; clear hb5 own2)
                | (at_builtin; refine append_ints rfl (.tmp 49) (.tmp 52) rfl w1.heap.size _ _ ((rise (xs.take k)).drop 0) rfl own3.out _ _ _ rfl ((hrow.out.keep hb6).drop (j := 0) (by omega) (by first | rfl | omega) (by first | rfl | omega) (by intro h; first | rfl | cases h | (split at h <;> cases h)) (by intro b9 o9 e hp; cases e <;> first | rfl | (rw [if_neg (by omega)]) | (simp; omega))) (by simp <;> omega) (by have := hb6.size; omega) ?_; intro v4 w4 own4 hb7; have hb8 := hb6.trans hb7.out; obtain ⟨ao4, n4, c4, rfl, hrow4⟩ := own4.out.shape; clear hb7 own3 own4))
              all_goals go_roundw
              · exact ⟨k + 1, by omega, by go_num, ⟨_, _, _, rfl, by show Row _ _ _ _ _; rw [HE.out]; exact hrow4.out⟩, Below.next hb hb8⟩
              · simp only [intOf]; omega
            · clear hrow2
              have HE : Hid (rise (xs.take (k + 1)) = ([] ++ (rise (xs.take k)).take 0) ++ [y] ++ (rise (xs.take k)).drop 0) := rise_put hy.out 0 (by simp) hbig.out
              go_wp2
              go_region
              all_goals go_wp2_with (first
                | (at_builtin; refine append_ints rfl (.tmp 37) (.tmp 40) rfl w1.heap.size _ [] ((rise (xs.take k)).take 0) rfl (Own.nil _ _) _ _ _ rfl ((hrow.out.keep hb2.drew).take (by omega)) (by simp <;> omega) hs2 ?_; intro v2 w2 own2 hb3; have hb4 := hb2.drew.trans hb3.out; have hc3 := (hb4.cell (cell_lt hc)).trans hc; clear hb3)
                | (at_builtin; refine append_ints rfl (.tmp 42) (.tmp 47) rfl w1.heap.size _ _ [y] rfl (own2.out.alloc _) _ 1 1 rfl (row_one _ y y0 y1) (by simp <;> omega) (by have := hb4.size; simp; omega) ?_; intro v3 w3 own3 hb5; have hb6 := (hb4.alloc hb4.size _).trans hb5.out; clear hb5 own2)
                | (at_builtin; refine append_ints rfl (.tmp 49) (.tmp 52) rfl w1.heap.size _ _ ((rise (xs.take k)).drop 0) rfl own3.out _ _ _ rfl ((hrow.out.keep hb6).drop (j := 0) (by omega) (by first | rfl | omega) (by first | rfl | omega) (by intro h; first | rfl | cases h | (split at h <;> cases h)) (by intro b9 o9 e hp; cases e <;> first | rfl | (rw [if_neg (by omega)]) | (simp; omega))) (by simp <;> omega) (by have := hb6.size; omega) ?_; intro v4 w4 own4 hb7; have hb8 := hb6.trans hb7.out; obtain ⟨ao4, n4, c4, rfl, hrow4⟩ := own4.out.shape; clear hb7 own3 own4))
              all_goals go_roundw
              · exact ⟨k + 1, by omega, by go_num, ⟨_, _, _, rfl, by show Row _ _ _ _ _; rw [HE.out]; exact hrow4.out⟩, Below.next hb hb8⟩
              · simp only [intOf]; omega
          · obtain ⟨b2, o2, z, rfl, hz, hzz, z0, z1⟩ := hrow2.at (show j < m by omega)
            by_cases hzy : y < z
            · have HV : Hid (∀ x ∈ (rise (xs.take k)).drop j, y < x) := drop_at hzz.out hbig.out hzy
              clear hrow2
              go_wp2
              go_region
              all_goals go_wp2
              all_goals go_roundw
              all_goals first | exact ⟨j, by omega, by go_num, HV, by first | exact hb2.drew | exact hb2⟩ | (simp only [intOf]; omega)
            · have HT : Hid (∀ x ∈ (rise (xs.take k)).take (j + 1), x < y) := by
                refine take_at (up_rise _) hzz.out ?_
                have : z ≠ y := fun e => by subst e; exact absurd ((hasF_mem _ _).2 (List.mem_of_getElem? hzz.out)) (by rw [he]; simp)
                omega
              clear hrow2
              have HE : Hid (rise (xs.take (k + 1)) = ([] ++ (rise (xs.take k)).take (j + 1)) ++ [y] ++ (rise (xs.take k)).drop (j + 1)) := rise_put hy.out (j + 1) HT.out hbig.out
              go_wp2
              go_region
              all_goals go_wp2_with (first
                | (at_builtin; refine append_ints rfl (.tmp 37) (.tmp 40) rfl w1.heap.size _ [] ((rise (xs.take k)).take (j + 1)) rfl (Own.nil _ _) _ _ _ rfl ((hrow.out.keep hb2.drew).take (by omega)) (by simp <;> omega) hs2 ?_; intro v2 w2 own2 hb3; have hb4 := hb2.drew.trans hb3.out; have hc3 := (hb4.cell (cell_lt hc)).trans hc; clear hb3)
                | (at_builtin; refine append_ints rfl (.tmp 42) (.tmp 47) rfl w1.heap.size _ _ [y] rfl (own2.out.alloc _) _ 1 1 rfl (row_one _ y y0 y1) (by simp <;> omega) (by have := hb4.size; simp; omega) ?_; intro v3 w3 own3 hb5; have hb6 := (hb4.alloc hb4.size _).trans hb5.out; clear hb5 own2)
                | (at_builtin; refine append_ints rfl (.tmp 49) (.tmp 52) rfl w1.heap.size _ _ ((rise (xs.take k)).drop (j + 1)) rfl own3.out _ _ _ rfl ((hrow.out.keep hb6).drop (j := (j + 1)) (by omega) (by first | rfl | omega) (by first | rfl | omega) (by intro h; first | rfl | cases h | (split at h <;> cases h)) (by intro b9 o9 e hp; cases e <;> first | rfl | (rw [if_neg (by omega)]) | (simp; omega))) (by simp <;> omega) (by have := hb6.size; omega) ?_; intro v4 w4 own4 hb7; have hb8 := hb6.trans hb7.out; obtain ⟨ao4, n4, c4, rfl, hrow4⟩ := own4.out.shape; clear hb7 own3 own4))
              all_goals go_roundw
              · exact ⟨k + 1, by omega, by go_num, ⟨_, _, _, rfl, by show Row _ _ _ _ _; rw [HE.out]; exact hrow4.out⟩, Below.next hb hb8⟩
              · simp only [intOf]; omega
      · have HE : Hid (rise (xs.take (k + 1)) = rise (xs.take k)) := rise_skip hy.out he
        go_wp2_with (go_at_call 38; with_reducible (refine (rhas_any _ _ _ _ _ _ hrow.out).mono ?_); rintro e w1 ⟨rfl, rfl⟩)
        go_roundw
        case rel => exact ⟨k + 1, by omega, by go_num, ⟨_, _, _, rfl, by show Row _ _ _ _ _; rw [HE.out]; exact hrow.out⟩, hb⟩
        case measure => simp [intOf]; omega
    · have HV : Hid (xs.take k = xs) := List.take_of_length_le (by rw [HR.out.1]; omega)
      go_wp2
      go_ret
      exact ⟨_, _, _, rfl, by rw [← HV.out]; exact hrow, hb⟩

end Go.Proofs.Ytdkkdfgaponlbaa
