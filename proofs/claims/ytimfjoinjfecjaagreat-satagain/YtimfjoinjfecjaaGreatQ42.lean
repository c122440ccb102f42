/-
  alike, exactly.
  beginAnew, where no clause is given up; sat, unsat.
  The document's Check and Refutes of a proof; what has a step holds.
-/
import Derived.Test.YtimfjoinjfecjaaGreatQ39
import Derived.Test.YtimfjoinjfecjaaGreatQ25
import Derived.Test.YtimfjoinjfecjaaGreatQ41
import Derived.Test.YtimfjoinjfecjaaGreatQ16
import Derived.Test.YtimfjoinjfecjaaGreatQ26

namespace Go.Proofs.YtimfjoinjfecjaaGreat
open Go.RowKit Go.Maps
set_option linter.unusedVariables false

/-- How many two lists have in common from their beginnings on. -/
def lcpF : List Int → List Int → Nat
  | x :: xs, y :: ys => if x = y then lcpF xs ys + 1 else 0
  | _, _ => 0

theorem lcp_ne : ∀ {H N : List Int} {q : Nat} {y1 y2 : Int}, H.take q = N.take q → H[q]? = some y1 → N[q]? = some y2 → ¬ y1 = y2 → lcpF H N = q
  | [], _, _, _, _, _, h, _, _ => by simp at h
  | _ :: _, [], _, _, _, _, _, h, _ => by simp at h
  | x :: xs, y :: ys, 0, y1, y2, _, h1, h2, h3 => by
    simp at h1 h2
    rw [lcpF, if_neg (by rw [h1, h2]; exact h3)]
  | x :: xs, y :: ys, q + 1, y1, y2, h, h1, h2, h3 => by
    simp at h h1 h2
    rw [lcpF, if_pos h.1, lcp_ne h.2 h1 h2 h3]

theorem lcp_end : ∀ {H N : List Int} {q : Nat}, H.take q = N.take q → q ≤ H.length → q ≤ N.length → (q = H.length ∨ q = N.length) → lcpF H N = q
  | [], N, q, _, h1, _, _ => by
    have : q = 0 := by simpa using h1
    rw [this]; rfl
  | x :: xs, [], q, _, _, h1, _ => by
    have : q = 0 := by simpa using h1
    rw [this]; rfl
  | x :: xs, y :: ys, 0, _, _, _, h => by simp at h
  | x :: xs, y :: ys, q + 1, h, h1, h2, h3 => by
    simp at h h1 h2 h3
    rw [lcpF, if_pos h.1, lcp_end h.2 h1 h2 h3]

theorem lcp_fin {H N : List Int} {q n m : Nat} (lH : H.length = n) (lN : N.length = m) (h1 : q ≤ n) (h2 : q ≤ m) (h : H.take q = N.take q) (hr : q = n ∨ q = m) : lcpF H N = q :=
  lcp_end h (by omega) (by omega) (by omega)

section
variable {k : K} {w : World} {p : V}

def AlX (H N : List Int) (w : World) (e : Ending) (w' : World) : Prop := ∃ q : Nat, e = .returned (.int .i64 q) ∧ Hid (q ≤ H.length ∧ q ≤ N.length ∧ H.take q = N.take q) ∧ Hid (lcpF H N = q) ∧ Hid (Below w.heap.size w w')

theorem AlX.out {H N : List Int} {w w' : World} {e : Ending} (h : AlX H N w e w') : ∃ q : Nat, e = .returned (.int .i64 q) ∧ Hid (q ≤ H.length ∧ q ≤ N.length ∧ H.take q = N.take q) ∧ Hid (lcpF H N = q) ∧ Hid (Below w.heap.size w w') := h

set_option maxHeartbeats 2000000 in
theorem alike_ex {ao bo : Option Addr} {n m c d : Nat} {H N : List Int} (ha : Told k p w (.slice ao n c) H) (hb : Told k p w (.slice bo m d) N) (hn : n ≤ 10000000000000) (hm : m ≤ 10000000000000) (h0 : ∀ b, bo = some ⟨b, 0, none⟩ → ∃ cur, w.heap[b]? = some (.cells cur 3 (0, 0))) :
    Calls Tryz.prog 74 #[.slice ao n c, .slice bo m d] w fun e w' => AlX H N w e w' := by
  have lH : H.length = n := by obtain ⟨_, _, _, e, h, _⟩ := ha; cases e; exact h
  have lN : N.length = m := by obtain ⟨_, _, _, e, h, _⟩ := hb; cases e; exact h
  obtain ⟨r, hr1, hr2, hr3⟩ : ∃ r, r ≤ n ∧ r ≤ m ∧ (r = n ∨ r = m) := by
    by_cases h : n ≤ m
    · exact ⟨n, Nat.le_refl _, h, .inl rfl⟩
    · exact ⟨m, by omega, Nat.le_refl _, .inr rfl⟩
  have hmin : (if (n : Int) ≤ m then (n : Int) else m) = r := by split <;> omega
  have HA := hid ha
  have HB := hid hb
  have HLH := hid lH
  have HR3 := hid hr3
  have HLN := hid lN
  have hminW : ∀ W : World, (Builtin.min_ #[3, 3] 3 #[.int .i64 n, .int .i64 m]).run Tryz.prog W = .ok (.int .i64 r) W := fun W => by
    rcases hr3 with h | h
    · subst h
      have : (r : Int) ≤ m := by omega
      exact min_le W this
    · subst h
      by_cases e : (n : Int) ≤ r
      · have : n = r := by omega
        subst this; exact min_le W e
      · exact min_gt W e
  by_cases hz : r = 0
  · subst hz
    clear ha hb lH lN hr3 hmin
    go_enter Tryz.func74, Tryz.ntmps74
    go_wp2
    go_quiet (fail)
    go_wp2
    go_loopw [6, 23] (fun _ i wr => ∃ q : Nat, q ≤ 0 ∧ i = .int .i64 q ∧ Hid (H.take q = N.take q) ∧ Hid (Below w.heap.size w wr) ∧ Hid (Told k p wr (.slice ao n c) H) ∧ Hid (Told k p wr (.slice bo m d) N)) (fun _ i _ => 0 - (intOf i).toNat)
    case atStart => exact ⟨0, Nat.zero_le _, rfl, hid (by simp), hid (drewN_any _ w nq), hid (HA.out.drewN nq), hid (HB.out.drewN nq)⟩
    case round =>
      obtain ⟨q, hq, rfl, heq, hbl, ta, tb⟩ := hrel
      by_cases hlt : q < 0
      · omega
      · have hqr : q = 0 := by omega
        have HQ : Hid (H.take 0 = N.take 0) := hid (by rw [← hqr]; exact heq.out)
        have hlt' : ¬ (q : Int) < (0 : Nat) := by omega
        clear hqr
        go_wp2
        go_ret
        exact ⟨0, rfl, hid ⟨by rw [HLH.out]; omega, by rw [HLN.out]; omega, HQ.out⟩, hid (lcp_fin HLH.out HLN.out (by omega) (by omega) HQ.out HR3.out), hbl⟩
  · have hr0 : (0 : Int) < r := by omega
    have hr0n : 0 < r := by omega
    have hr0d : decide (0 < r) = true := by simpa using hr0n
    obtain ⟨b1, z1, rfl, e1, _, ⟨cu1, fr1, g1⟩, _⟩ := ha.at (q := 0) (by omega)
    obtain ⟨b2, z2, rfl, e2, _, _, _⟩ := hb.at (q := 0) (by omega)
    obtain ⟨cu2, g2⟩ := h0 b2 rfl
    have hs1 : cu1.size ≠ 0 := fun e => by
      rw [cell_of g1, Array.getElem?_eq_none (by omega)] at e1; cases e1
    have he : ∀ s, (binOp .eql 141 (.pointer (some ⟨b1, 0, none⟩)) (.pointer (some ⟨b2, 0, none⟩))).run Tryz.prog (w.drewN s) = .ok (.bool (b1 == b2)) (w.drewN s) := fun s => eql109 (w.drewN s) b1 b2 hs1 g1 g2
    have hn0 : 0 < n := by omega
    have hm0 : 0 < m := by omega
    by_cases hbb : b1 = b2
    · have hbb' : (b1 == b2) = true := by simpa using hbb
      have HE : Hid (H.take r = N.take r) := hid (by
        apply List.ext_getElem?
        intro q
        by_cases hq : q < r
        · rw [List.getElem?_take_of_lt hq, List.getElem?_take_of_lt hq]
          obtain ⟨c1, y1, f1, d1, hy1, _⟩ := ha.at (q := q) (by omega)
          obtain ⟨c2, y2, f2, d2, hy2, _⟩ := hb.at (q := q) (by omega)
          cases f1; cases f2
          rw [hbb, d2] at d1
          rw [hy1.out, hy2.out]
          cases d1; rfl
        · rw [List.getElem?_eq_none (by rw [List.length_take]; omega), List.getElem?_eq_none (by rw [List.length_take]; omega)])
      rw [hbb'] at he
      clear ha hb lH lN hmin hbb e1 e2 g1 g2
      go_enter Tryz.func74, Tryz.ntmps74
      go_wp2
      go_quiet (fail)
      go_wp2
      go_ret
      exact ⟨r, rfl, hid ⟨by rw [HLH.out]; omega, by rw [HLN.out]; omega, HE.out⟩, hid (lcp_fin HLH.out HLN.out (by omega) (by omega) HE.out HR3.out), hid (drewN_any _ w nq)⟩
    · have hbb' : (b1 == b2) = false := by simpa using hbb
      rw [hbb'] at he
      clear ha hb lH lN hmin hbb e1 e2 g1 g2
      go_enter Tryz.func74, Tryz.ntmps74
      go_wp2
      go_quiet (fail)
      go_wp2
      go_loopw [6, 23] (fun _ i wr => ∃ q : Nat, q ≤ r ∧ i = .int .i64 q ∧ Hid (H.take q = N.take q) ∧ Hid (Below w.heap.size w wr) ∧ Hid (Told k p wr (.slice (some ⟨b1, 0, none⟩) n c) H) ∧ Hid (Told k p wr (.slice (some ⟨b2, 0, none⟩) m d) N)) (fun _ i _ => r - (intOf i).toNat)
      case atStart => exact ⟨0, Nat.zero_le _, rfl, hid (by simp), hid (drewN_any _ w nq), hid (HA.out.drewN nq), hid (HB.out.drewN nq)⟩
      case round =>
        obtain ⟨q, hq, rfl, heq, hbl, ta, tb⟩ := hrel
        by_cases hlt : q < r
        · have hlt' : (q : Int) < (r : Nat) := by omega
          have hqn : q < n := by omega
          have hqm : q < m := by omega
          obtain ⟨b1, y1, e1, d1, hy1, _, _, _⟩ := ta.out.at hqn
          obtain ⟨b2, y2, e2, d2, hy2, _, _, _⟩ := tb.out.at hqm
          cases e1; cases e2
          by_cases hy : y1 = y2
          · have hy' : (y1 != y2) = false := by simpa using hy
            have HN : Hid (H.take (q + 1) = N.take (q + 1)) := hid (by rw [List.take_add_one, List.take_add_one, heq.out, hy1.out, hy2.out, hy])
            clear hy
            go_wp2
            go_quiet (fail)
            have B2 := hid (Below.next hbl.out (drewN_any _ wr nq))
            have TA2 := hid (ta.out.drewN nq)
            have TB2 := hid (tb.out.drewN nq)
            go_wp2
            go_roundw
            case rel => exact ⟨q + 1, by omega, by go_num, HN, B2, TA2, TB2⟩
            case measure => simp only [intOf]; omega
          · have hy' : (y1 != y2) = true := by simpa using hy
            have HLC := hid (lcp_ne (H := H) (N := N) heq.out hy1.out hy2.out hy)
            clear hy
            go_wp2
            go_quiet (fail)
            have B2 := hid (Below.next hbl.out (drewN_any _ wr nq))
            go_wp2
            go_ret
            exact ⟨q, rfl, hid ⟨by rw [HLH.out]; omega, by rw [HLN.out]; omega, heq.out⟩, HLC, B2⟩
        · have hqr : q = r := by omega
          have HQ : Hid (H.take r = N.take r) := hid (by rw [← hqr]; exact heq.out)
          have hlt' : ¬ (q : Int) < (r : Nat) := by omega
          clear hqr
          go_wp2
          go_ret
          exact ⟨r, rfl, hid ⟨by rw [HLH.out]; omega, by rw [HLN.out]; omega, HQ.out⟩, hid (lcp_fin HLH.out HLN.out (by omega) (by omega) HQ.out HR3.out), hbl⟩
end
end Go.Proofs.YtimfjoinjfecjaaGreat

namespace Go.Proofs.YtimfjoinjfecjaaGreat
open Go.RowKit Go.Maps
set_option linter.unusedVariables false

def anF (n : Nat) (s : SS) : SS := nextF (gbF n s 0)

section
variable {c : SC} {w0 w w' : World} {g g' : G} {s s' : SS} {m m' : MV}

theorem num_shape (h : Sm c w0 g s m w) : ∃ a cp, m.nv = .slice a s.ns.length cp := by
  rcases h.nu.1.2 with ⟨e, e2⟩ | ⟨b, cap, cur, e, _⟩
  · exact ⟨none, 0, by rw [e, e2]⟩
  · exact ⟨_, cap, e⟩

set_option maxRecDepth 20000 in
set_option maxHeartbeats 2000000 in
theorem reduce_nil (h : Sm c w0 g s m w) (hr : c.all = true ∨ s.ns.length < s.lim) : Calls Tryz.prog 58 #[.pointer (some ⟨c.SB, 4, none⟩)] w fun e w' => e = .returned (.slice none 0 0) ∧ Hid (Below w.heap.size w w') := by
  have c7 := h.c7
  have c6 := h.c6
  have c8 := h.c8
  obtain ⟨na, np, en⟩ := num_shape h
  rw [en] at c6
  obtain ⟨lim, hlim⟩ : ∃ lim, s.lim = lim := ⟨_, rfl⟩
  obtain ⟨nl, hnl⟩ : ∃ nl, s.ns.length = nl := ⟨_, rfl⟩
  rw [hlim, hnl] at hr
  rw [hlim] at c8
  rw [hnl] at c6
  obtain ⟨al, hal⟩ : ∃ al, c.all = al := ⟨_, rfl⟩
  rw [hal] at c7 hr
  have BD := hid (below_drew w)
  clear h en hlim hnl hal
  cases al with
  | true =>
    clear hr
    go_enter Tryz.func58, Tryz.ntmps58
    go_wp2
    go_region
    all_goals go_wp2
    all_goals go_ret
    all_goals exact ⟨rfl, BD⟩
  | false =>
    have hr' : nl < lim := by
      rcases hr with hr | hr
      · cases hr
      · exact hr
    have hrI : (nl : Int) < lim := by omega
    clear hr
    go_enter Tryz.func58, Tryz.ntmps58
    go_wp2
    go_region
    all_goals go_wp2
    all_goals go_ret
    all_goals exact ⟨rfl, BD⟩

set_option maxHeartbeats 2000000 in
theorem anew_nil (h : Sm c w0 g s m w) (hr : c.all = true ∨ s.ns.length < s.lim) (hrd : s.rd ≤ 1000000000) (hcf : s.cf ≤ 1000000000) : Calls Tryz.prog 35 #[.pointer (some ⟨c.SB, 0, none⟩)] w fun e w' => e = .returned (.tuple #[]) ∧ Hid (Nx c w0 w m g (anF c.kw.n s) w') := by
  have HB := hid (goBack_is h 0)
  have HR : Hid (c.all = true ∨ (gbF c.kw.n s 0).ns.length < (gbF c.kw.n s 0).lim) := hid hr
  have HRD : Hid ((gbF c.kw.n s 0).rd ≤ 1000000000) := hid hrd
  have HCF : Hid ((gbF c.kw.n s 0).cf ≤ 1000000000) := hid hcf
  clear h hr
  go_enter Tryz.func35, Tryz.ntmps35
  go_wp2_with (first
    | (go_at_call 57; with_reducible (refine HB.out.mono ?_); rintro e w1 ⟨rfl, n1⟩; have n2 := Nx.out n1; obtain ⟨m1, h1, k1⟩ := n2)
    | (go_at_call 58; with_reducible (refine (reduce_nil h1.out HR.out).mono ?_); rintro e w2 ⟨rfl, b2⟩; have n3 := Nx.out (h1.out.xbelow b2.out); obtain ⟨m2, h2, k2⟩ := n3))
  go_loopw [11] (fun i wr => i = .int .i64 0 ∧ wr = w2) (fun _ _ => 0)
  case atStart => exact ⟨rfl, rfl⟩
  case round =>
    obtain ⟨rfl, rfl⟩ := hrel
    go_wp2_with (go_at_call 30; with_reducible (refine (next_is h2.out HRD.out HCF.out).mono ?_); rintro e w4 ⟨rfl, n4⟩; have n5 := Nx.out n4; obtain ⟨m4, h4, k4⟩ := n5)
    go_end0
    exact ⟨rfl, hid ⟨m4, h4.out, (k1.out.trans k2.out).trans k4.out⟩⟩
end
end Go.Proofs.YtimfjoinjfecjaaGreat

namespace Go.Proofs.YtimfjoinjfecjaaGreat.U
open Go.RowKit
set_option linter.unusedVariables false

/-! ### What has a step holds -/
theorem bad_holds0 {L : List (List Int)} {S : List Int} {len : Nat} {B : Nat → Bool} (hL : ∀ c ∈ L, holdsF c len B = true) (hS : ∀ x ∈ S, 0 ≤ x → holF x len B = true) : ¬ Bad L S := fun h =>
  bad_holds (S := S.filter fun x => decide (0 ≤ x)) hL (fun x hx => by simp at hx; exact hS x hx.1 hx.2)
    (bad_mono (fun c hc => hc) (fun x hx h0 => .base (by simp; exact ⟨hx, h0⟩) h0) h)

theorem hol_not2 {x : Int} {len : Nat} {B : Nat → Bool} (h0 : 0 ≤ x) (h : holF x len B = false) : holF (notF x) len B = true := by
  have e : ¬ x < 0 := by omega
  have e2 : ¬ notF x < 0 := by have := not_pos h0; omega
  have hv : notF x / 2 = x / 2 := by simp only [notF]; rw [if_neg e]; split <;> omega
  have hn : negF (notF x) = !negF x := by
    have hp := not_pos h0
    rw [Bool.eq_iff_iff]
    simp only [negF, Bool.not_eq_true', decide_eq_true_eq, decide_eq_false_iff_not]
    simp only [notF]; rw [if_neg e]
    split <;> omega
  simp only [holF] at h ⊢
  rw [if_neg e] at h
  rw [if_neg e2, hv, hn]
  generalize truF (x / 2) len B = t at h ⊢
  generalize negF x = n at h ⊢
  cases t <;> cases n <;> simp_all

theorem stp_holds {L : List (List Int)} {c : List Int} {len : Nat} {B : Nat → Bool} (hL : ∀ c ∈ L, holdsF c len B = true) (h : Stp L c) : holdsF c len B = true := by
  cases hh : holdsF c len B
  · refine absurd h (bad_holds0 hL fun x hx h0 => ?_)
    obtain ⟨y, hy, rfl⟩ := List.mem_map.1 hx
    have hf : holF y len B = false := by
      have := List.any_eq_false.1 (show c.any (fun x => holF x len B) = false from hh) y hy
      simpa using this
    by_cases y0 : 0 ≤ y
    · exact hol_not2 y0 hf
    · rw [not_neg (by omega)] at h0; omega
  · rfl

end Go.Proofs.YtimfjoinjfecjaaGreat.U

namespace Go.Proofs.YtimfjoinjfecjaaGreat
open Go.RowKit
set_option linter.unusedVariables false

theorem U.Grid.vals {w : World} {ao : Option Addr} {n cap : Nat} {xss : List (List Int)} (h : U.Grid w ao n cap xss) : ∃ vs, vs.length = n ∧ GV w vs xss ∧ (0 < n → ∃ ad, ao = some ad ∧ ∀ j u, vs[j]? = some u → w.cell? (ad.add j) = some u) := by
  by_cases h0 : 0 < n
  · obtain ⟨b, off, e, hc⟩ := h.2.2.2.2 h0
    refine ⟨(List.range n).map fun j => (w.cell? ⟨b, off + j, none⟩).getD undef, by simp, ⟨by simp [h.1], fun j hj => ?_⟩, fun _ => ⟨_, e, fun j u hj => ?_⟩⟩
    · have hj2 : j < n := by simpa using hj
      obtain ⟨a, m, c, h1, h2⟩ := hc j hj2
      exact ⟨a, m, c, by simp [hj2, h1], h2⟩
    · have hj2 : j < n := by
        have := (List.getElem?_eq_some_iff.1 hj).1; simpa using this
      obtain ⟨a, m, c, h1, h2⟩ := hc j hj2
      simp [hj2, h1] at hj
      rw [← hj, ← h1]
      congr 1
      by_cases hz : j = 0
      · subst hz; rfl
      · simp [Addr.add, hz]
  · refine ⟨[], by simp; omega, ⟨by have := h.1; simp; omega, fun j hj => by simp at hj⟩, fun h => absurd h h0⟩

end Go.Proofs.YtimfjoinjfecjaaGreat
