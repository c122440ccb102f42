/-
  alike: how many literals two lists have in common.
-/
import Derived.Test.YtikdmgemhfmipaaGreatWSpread
import Derived.Test.YtikdmgemhfmipaaGreatMU1
import Derived.LaidEqlPtr
namespace Go.Proofs.YtikdmgemhfmipaaGreat
open Go.RowKit Go.Maps
set_option linter.unusedVariables false

theorem info3j : ∃ j, Tryz.prog.info? 3 = some j ∧ j.size = 1 := by
  obtain ⟨i0, hi, hz0, hz1, hz2⟩ := info_parts Tryz.info3
  exact ⟨i0, hi, hz1⟩

theorem same_no (w : World) {a b : Addr} {ca cb : Array Value} {ta tb : TypeId} {fr : Nat × Nat} (hne : a.block ≠ b.block) (hs : ca.size ≠ 0) (ha : w.heap[a.block]? = some (.cells ca ta fr)) (hb : w.heap[b.block]? = some (.cells cb tb (0, 0))) : (sameAddr a b).run Tryz.prog w = .ok false w := by
  obtain ⟨s, hs'⟩ : ∃ s, ca.size = s + 1 := ⟨ca.size - 1, by omega⟩
  simp [sameAddr, hne, World.frozen?, ha, hb, noView, viewAt, World.shape?, mayBeOne, stringish, hs']

theorem eql109 (w : World) (x y : Nat) {c1 c2 : Array Value} {t1 t2 : TypeId} {fr : Nat × Nat} (hs1 : c1.size ≠ 0) (hx : w.heap[x]? = some (.cells c1 t1 fr)) (hy : w.heap[y]? = some (.cells c2 t2 (0, 0))) :
    (binOp .eql 104 (.pointer (some ⟨x, 0, none⟩)) (.pointer (some ⟨y, 0, none⟩))).run Tryz.prog w = .ok (.bool (x == y)) w := by
  obtain ⟨j, hj, hs⟩ := info3j
  by_cases e : x = y
  · subst e
    rw [run_eql_ptr_same w ⟨x, 0, none⟩ Tryz.underlying104 hj]; simp
  · have h : ∀ d : Nat, (Op.equalIn (d + 1) 104 (.pointer (some ⟨x, 0, none⟩)) (.pointer (some ⟨y, 0, none⟩))).run Tryz.prog w = .ok false w := fun d => by
      simp [Op.equalIn, run_underlying Tryz.underlying104, sizeOf, typeInfo, hj, hs, same_no w (a := ⟨x, 0, none⟩) (b := ⟨y, 0, none⟩) e hs1 hx hy]
    simp only [binOp]
    simp [Op.equal, Op.maxDepth, h 9999, e]

section
variable {k : K} {w : World} {p : V}

theorem Told.at {ao : Option Addr} {n c : Nat} {xs : List Int} (h : Told k p w (.slice ao n c) xs) {q : Nat} (hq : q < n) : ∃ b y, ao = some ⟨b, 0, none⟩ ∧ w.cell? ⟨b, q, none⟩ = some (.int .i64 y) ∧ Hid (xs[q]? = some y) ∧ Typ w b 3 ∧ 0 ≤ y ∧ y ≤ 9223372036854775807 := by
  obtain ⟨ao', n', c', e, h2, h3, h4, h5, h5', h6, h7⟩ := h
  cases e
  have hl : q < xs.length := by omega
  obtain ⟨b, e, q1, q2, _⟩ := h7 q _ (List.getElem?_eq_getElem hl)
  exact ⟨b, _, e, q1, List.getElem?_eq_getElem hl, q2, h6 _ (List.getElem_mem hl)⟩

theorem Told.drewN {v : Value} {xs : List Int} (h : Told k p w v xs) (m : Nat) : Told k p (w.drewN m) v xs := h.ft (FT.fw (B := 0) ⟨rfl, rfl, rfl, Nat.le_refl _, fun _ _ _ _ => rfl, fun _ _ _ => rfl⟩)

theorem min_le (W : World) {a b : Int} (h : a ≤ b) : (Builtin.min_ #[3, 3] 3 #[.int .i64 a, .int .i64 b]).run Tryz.prog W = .ok (.int .i64 a) W := by
  simp [Builtin.min_, Builtin.min2]
  intro; omega
theorem min_gt (W : World) {a b : Int} (h : ¬ a ≤ b) : (Builtin.min_ #[3, 3] 3 #[.int .i64 a, .int .i64 b]).run Tryz.prog W = .ok (.int .i64 b) W := by
  simp [Builtin.min_, Builtin.min2, h]

def AlEnd (H N : List Int) (w : World) (e : Ending) (w' : World) : Prop := ∃ q : Nat, e = .returned (.int .i64 q) ∧ Hid (q ≤ H.length ∧ q ≤ N.length ∧ H.take q = N.take q) ∧ Hid (Below w.heap.size w w')

set_option maxHeartbeats 2000000 in
theorem alike_is {ao bo : Option Addr} {n m c d : Nat} {H N : List Int} (ha : Told k p w (.slice ao n c) H) (hb : Told k p w (.slice bo m d) N) (hn : n ≤ 100000000) (hm : m ≤ 100000000) (h0 : ∀ b, bo = some ⟨b, 0, none⟩ → ∃ cur, w.heap[b]? = some (.cells cur 3 (0, 0))) :
    Calls Tryz.prog 41 #[.slice ao n c, .slice bo m d] w fun e w' => AlEnd H N w e w' := by
  have lH : H.length = n := by obtain ⟨_, _, _, e, h, _⟩ := ha; cases e; exact h
  have lN : N.length = m := by obtain ⟨_, _, _, e, h, _⟩ := hb; cases e; exact h
  obtain ⟨r, hr1, hr2, hr3⟩ : ∃ r, r ≤ n ∧ r ≤ m ∧ (r = n ∨ r = m) := by
    by_cases h : n ≤ m
    · exact ⟨n, Nat.le_refl _, h, .inl rfl⟩
    · exact ⟨m, by omega, Nat.le_refl _, .inr rfl⟩
  have hmin : (if (n : Int) ≤ m then (n : Int) else m) = r := by split <;> omega
  have HA := hid ha
  have HB := hid hb
  have HLH := hid lH
  have HLN := hid lN
  have hminW : ∀ W : World, (Builtin.min_ #[3, 3] 3 #[.int .i64 n, .int .i64 m]).run Tryz.prog W = .ok (.int .i64 r) W := fun W => by
    rcases hr3 with h | h
    · subst h
      have : (r : Int) ≤ m := by omega
      exact min_le W this
    · subst h
      by_cases e : (n : Int) ≤ r
      · have : n = r := by omega
        subst this; exact min_le W e
      · exact min_gt W e
  by_cases hz : r = 0
  · subst hz
    clear ha hb lH lN hr3 hmin
    go_enter Tryz.func41, Tryz.ntmps41
    go_wp2
    go_quiet (fail)
    go_wp2
    go_loopw [6, 23] (fun _ i wr => ∃ q : Nat, q ≤ 0 ∧ i = .int .i64 q ∧ Hid (H.take q = N.take q) ∧ Hid (Below w.heap.size w wr) ∧ Hid (Told k p wr (.slice ao n c) H) ∧ Hid (Told k p wr (.slice bo m d) N)) (fun _ i _ => 0 - (intOf i).toNat)
    case atStart => exact ⟨0, Nat.zero_le _, rfl, hid (by simp), hid (drewN_any _ w nq), hid (HA.out.drewN nq), hid (HB.out.drewN nq)⟩
    case round =>
      obtain ⟨q, hq, rfl, heq, hbl, ta, tb⟩ := hrel
      by_cases hlt : q < 0
      · omega
      · have hqr : q = 0 := by omega
        have HQ : Hid (H.take 0 = N.take 0) := hid (by rw [← hqr]; exact heq.out)
        have hlt' : ¬ (q : Int) < (0 : Nat) := by omega
        clear hqr
        go_wp2
        go_ret
        exact ⟨0, rfl, hid ⟨by rw [HLH.out]; omega, by rw [HLN.out]; omega, HQ.out⟩, hbl⟩
  · have hr0 : (0 : Int) < r := by omega
    have hr0n : 0 < r := by omega
    have hr0d : decide (0 < r) = true := by simpa using hr0n
    obtain ⟨b1, z1, rfl, e1, _, ⟨cu1, fr1, g1⟩, _⟩ := ha.at (q := 0) (by omega)
    obtain ⟨b2, z2, rfl, e2, _, _, _⟩ := hb.at (q := 0) (by omega)
    obtain ⟨cu2, g2⟩ := h0 b2 rfl
    have hs1 : cu1.size ≠ 0 := fun e => by
      rw [cell_of g1, Array.getElem?_eq_none (by omega)] at e1; cases e1
    have he : ∀ s, (binOp .eql 104 (.pointer (some ⟨b1, 0, none⟩)) (.pointer (some ⟨b2, 0, none⟩))).run Tryz.prog (w.drewN s) = .ok (.bool (b1 == b2)) (w.drewN s) := fun s => eql109 (w.drewN s) b1 b2 hs1 g1 g2
    have hn0 : 0 < n := by omega
    have hm0 : 0 < m := by omega
    by_cases hbb : b1 = b2
    · have hbb' : (b1 == b2) = true := by simpa using hbb
      have HE : Hid (H.take r = N.take r) := hid (by
        apply List.ext_getElem?
        intro q
        by_cases hq : q < r
        · rw [List.getElem?_take_of_lt hq, List.getElem?_take_of_lt hq]
          obtain ⟨c1, y1, f1, d1, hy1, _⟩ := ha.at (q := q) (by omega)
          obtain ⟨c2, y2, f2, d2, hy2, _⟩ := hb.at (q := q) (by omega)
          cases f1; cases f2
          rw [hbb, d2] at d1
          rw [hy1.out, hy2.out]
          cases d1; rfl
        · rw [List.getElem?_eq_none (by rw [List.length_take]; omega), List.getElem?_eq_none (by rw [List.length_take]; omega)])
      rw [hbb'] at he
      clear ha hb lH lN hmin hbb e1 e2 g1 g2
      go_enter Tryz.func41, Tryz.ntmps41
      go_wp2
      go_quiet (fail)
      go_wp2
      go_ret
      exact ⟨r, rfl, hid ⟨by rw [HLH.out]; omega, by rw [HLN.out]; omega, HE.out⟩, hid (drewN_any _ w nq)⟩
    · have hbb' : (b1 == b2) = false := by simpa using hbb
      rw [hbb'] at he
      clear ha hb lH lN hmin hbb e1 e2 g1 g2
      go_enter Tryz.func41, Tryz.ntmps41
      go_wp2
      go_quiet (fail)
      go_wp2
      go_loopw [6, 23] (fun _ i wr => ∃ q : Nat, q ≤ r ∧ i = .int .i64 q ∧ Hid (H.take q = N.take q) ∧ Hid (Below w.heap.size w wr) ∧ Hid (Told k p wr (.slice (some ⟨b1, 0, none⟩) n c) H) ∧ Hid (Told k p wr (.slice (some ⟨b2, 0, none⟩) m d) N)) (fun _ i _ => r - (intOf i).toNat)
      case atStart => exact ⟨0, Nat.zero_le _, rfl, hid (by simp), hid (drewN_any _ w nq), hid (HA.out.drewN nq), hid (HB.out.drewN nq)⟩
      case round =>
        obtain ⟨q, hq, rfl, heq, hbl, ta, tb⟩ := hrel
        by_cases hlt : q < r
        · have hlt' : (q : Int) < (r : Nat) := by omega
          have hqn : q < n := by omega
          have hqm : q < m := by omega
          obtain ⟨b1, y1, e1, d1, hy1, _, _, _⟩ := ta.out.at hqn
          obtain ⟨b2, y2, e2, d2, hy2, _, _, _⟩ := tb.out.at hqm
          cases e1; cases e2
          by_cases hy : y1 = y2
          · have hy' : (y1 != y2) = false := by simpa using hy
            have HN : Hid (H.take (q + 1) = N.take (q + 1)) := hid (by rw [List.take_add_one, List.take_add_one, heq.out, hy1.out, hy2.out, hy])
            clear hy
            go_wp2
            go_quiet (fail)
            have B2 := hid (Below.next hbl.out (drewN_any _ wr nq))
            have TA2 := hid (ta.out.drewN nq)
            have TB2 := hid (tb.out.drewN nq)
            go_wp2
            go_roundw
            case rel => exact ⟨q + 1, by omega, by go_num, HN, B2, TA2, TB2⟩
            case measure => simp only [intOf]; omega
          · have hy' : (y1 != y2) = true := by simpa using hy
            clear hy
            go_wp2
            go_quiet (fail)
            have B2 := hid (Below.next hbl.out (drewN_any _ wr nq))
            go_wp2
            go_ret
            exact ⟨q, rfl, hid ⟨by rw [HLH.out]; omega, by rw [HLN.out]; omega, heq.out⟩, B2⟩
        · have hqr : q = r := by omega
          have HQ : Hid (H.take r = N.take r) := hid (by rw [← hqr]; exact heq.out)
          have hlt' : ¬ (q : Int) < (r : Nat) := by omega
          clear hqr
          go_wp2
          go_ret
          exact ⟨r, rfl, hid ⟨by rw [HLH.out]; omega, by rw [HLN.out]; omega, HQ.out⟩, hbl⟩
end

end Go.Proofs.YtikdmgemhfmipaaGreat
