/-
  above, take.
-/
import Derived.Test.YtplhlfmibeennaaMa
namespace Go.Proofs.Ytplhlfmibeennaa
open Go.RowKit
set_option linter.unusedVariables false

/-! ### a row of the call's own, all of whose literals are known -/
theorem Gt.own {B : BT} {gb rb : Nat} {w w' : World} {n : Nat} {cs : List (List Int)} (h : Gt B gb w n cs) (b : Below w.heap.size w w') (h0 : w.heap.size ≤ rb) (h1 : rb < w'.heap.size) : Gt (B.and rb) gb w' n cs := by
  refine h.hop (r := none) rfl ⟨b.os, b.tape, b.output, b.size, fun j hj _ => b.block j hj⟩ (fun j T hj => by cases hj) (fun c hc => ?_)
  rcases hc with hc | hc
  · exact ⟨Nat.lt_of_lt_of_le (h.tl c hc) b.size, .inl hc⟩
  · exact ⟨by omega, .inr (by omega)⟩
theorem Mr.lt {w : World} {rb m : Nat} {zs : List Int} (h : Mr w rb m zs) : rb < w.heap.size := blk_lt h.1
theorem Mr.get {w : World} {rb m : Nat} {zs : List Int} (h : Mr w rb m zs) {j : Nat} {x : Int} (hx : zs[j]? = some x) : w.cell? ⟨rb, j, none⟩ = some (.int .i64 x) := by
  rw [cell_of h.1]; simp [hx]

/-- What holds between the stores. -/
structure Ms (B : BT) (gb : Nat) (is : List Int) (n0 : Nat) (v0 : Nat → Bool) (k : Nat) (w wr : World) (n : Nat) (cs : List (List Int)) (val : Nat → Bool) (rb m : Nat) (zs : List Int) (S : Nat → Bool) : Prop where
  s : Sx (B.and rb) gb is n0 v0 k w wr n cs val
  r : Mr wr rb m zs
  nb : w.heap.size ≤ rb
  l : Lits n val zs m S

section
variable {B : BT} {gb : Nat} {is : List Int} {n0 : Nat} {v0 : Nat → Bool} {k : Nat} {w wr w' : World} {n : Nat} {cs : List (List Int)} {val : Nat → Bool} {r : Bool} {y : Int} {rb m q : Nat} {zs : List Int} {S S' : Nat → Bool}

theorem Ms.start (g : Good n cs val is) (h : Gt B gb w n cs) (b : Below w.heap.size w w') (r : Mr w' rb m (List.replicate m 1)) (nb : w.heap.size ≤ rb) : Ms B gb is n val 0 w w' n cs val rb m (List.replicate m 1) (fun _ => false) :=
  ⟨⟨Nat.le_refl _, Nat.le_refl _, g, fun _ _ => rfl, h.own b nb r.lt, FG.below b⟩, r, nb, lits_no g m⟩
theorem Ms.below (l : Ms B gb is n0 v0 k w wr n cs val rb m zs S) (b : Below wr.heap.size wr w') : Ms B gb is n0 v0 k w w' n cs val rb m zs S := ⟨l.s.below b, l.r.below b, l.nb, l.l⟩
theorem Ms.mono {k' : Nat} (l : Ms B gb is n0 v0 k w wr n cs val rb m zs S) (h : k ≤ k') : Ms B gb is n0 v0 k' w wr n cs val rb m zs S := ⟨l.s.mono h, l.r, l.nb, l.l⟩
theorem Ms.as (l : Ms B gb is n0 v0 k w wr n cs val rb m zs S) (e : ∀ j, j < m → S j = S' j) : Ms B gb is n0 v0 k w wr n cs val rb m zs S' := ⟨l.s, l.r, l.nb, l.l.as e⟩
/-- Gates were made. -/
theorem Ms.on {k1 : Nat} {v1 : Nat → Bool} {w1 : World} {n1 : Nat} {cs1 : List (List Int)} (l : Ms B gb is n0 v0 k w w1 n1 cs1 v1 rb m zs S) (t : Sx (B.and rb) gb is n1 v1 k1 w1 wr n cs val) : Ms B gb is n0 v0 (k + k1) w wr n cs val rb m zs S :=
  ⟨l.s.on t, l.r.fg t.f, l.nb, l.l.more t.lo t.ag⟩
theorem Ms.gate {w1 : World} (l : Ms B gb is n0 v0 k w wr n cs val rb m zs S) (b : Below wr.heap.size wr w1) (e : GEnd (B.and rb) gb n cs val is r w1 w' y) :
    ∃ n' cs' val', n ≤ n' ∧ n' ≤ n + 1 ∧ Hid (Ms B gb is n0 v0 (k + 1) w w' n' cs' val' rb m zs S) ∧ Hid (∀ i, i < n → val' i = val i) ∧ Hid (rng n' y) ∧ Hid (hd val' y = r) := by
  have hf : FG (B.and rb) wr w' := by
    obtain ⟨_, _, _, _, _, _, _, h5⟩ := e
    exact (FG.below b).trans h5
  obtain ⟨n', cs', val', lo, hi, s, ag, h3, h4⟩ := e.on l.s b
  exact ⟨n', cs', val', lo, hi, ⟨s.out, l.r.fg hf, l.nb, l.l.more lo ag.out⟩, ag, h3, h4⟩
/-- One is stored. -/
theorem Ms.put (l : Ms B gb is n0 v0 k w wr n cs val rb m zs S) (hq : q < m) (hy : rng n y) (hv : hd val y = S' q) (e : ∀ j, j < m → j ≠ q → S j = S' j) : Ms B gb is n0 v0 k w (wr.setCell ⟨rb, q, none⟩ (.int .i64 y)) n cs val rb m (zs.set q y) S' := by
  refine ⟨⟨l.s.lo, l.s.hi, l.s.g, l.s.ag, l.s.h.put l.r, l.s.f.put l.nb _ _⟩, l.r.set q y, l.nb, by rw [List.length_set]; exact l.l.len, fun x hx => ?_, fun j x hx => ?_⟩
  · rcases List.mem_or_eq_of_mem_set hx with hx | rfl
    · exact l.l.rg x hx
    · exact hy
  · have hj : j < m := by
      have := (List.getElem?_eq_some_iff.1 hx).1
      rw [List.length_set, l.l.len] at this; exact this
    by_cases ej : j = q
    · subst ej
      rw [List.getElem?_set_self (by rw [l.l.len]; exact hq)] at hx
      cases hx; exact hv
    · rw [List.getElem?_set_ne (by omega)] at hx
      rw [l.l.is j x hx, e j hj ej]
theorem Ms.end (l : Ms B gb is n0 v0 k w wr n cs val rb m zs S) (hm : m ≤ 100000) (hn : n ≤ 10000) : Sx B gb is n0 v0 k w wr n cs val ∧ TR wr (some ⟨rb, 0, none⟩) m m zs ∧ Lits n val zs m S :=
  ⟨⟨l.s.lo, l.s.hi, l.s.g, l.s.ag, l.s.h.drop, l.s.f.less⟩, l.r.trow (fun x hx => rng_fit (l.l.rg x hx) hn) hm, l.l⟩
theorem Ms.rend (l : Ms B gb is n0 v0 k w wr n cs val rb m zs S) (hm : m ≤ 100000) (hn : n ≤ 10000) : REnd B gb is n0 v0 k w wr rb m S := by
  obtain ⟨h1, h2, h3⟩ := l.end hm hn
  exact ⟨n, cs, val, zs, h1, h2, h3, l.nb⟩
end

/-! ### above -/
/-- From the place q on: what is above. -/
def upF (Bf : Nat → Bool) (m q j : Nat) : Bool := decide (q < j) && abF Bf m j

set_option maxHeartbeats 8000000 in
theorem above_any {B : BT} {gb n : Nat} {cs : List (List Int)} {val : Nat → Bool} {is : List Int} (w : World) (g : Good n cs val is) (h : Gt B gb w n cs) (hn : n ≤ 5000) (bo : Option Addr) (m c2 : Nat) (ys : List Int) (ry : TR w bo m c2 ys) (Bf : Nat → Bool) (Y : Lits n val ys m Bf) (hm : m ≤ 900) (hm0 : 0 < m) (M : Nat) (hM : M = m + 1) :
    Calls Try.prog 34 #[.pointer (some ⟨gb, 0, none⟩), .slice bo m c2] w fun e w' => ∃ rb, e = .returned (.slice (some ⟨rb, 0, none⟩) M M) ∧ Hid (REnd B gb is n val m w w' rb M (upF Bf m 0)) := by
  have HG := hid g
  have G := hid h
  have RY := hid ry
  have HY := hid Y
  have my := ry.row.max
  obtain ⟨p, hpm⟩ : ∃ p, m = p + 1 := ⟨m - 1, by omega⟩
  have e1 : (m : Int) + 1 = (M : Int) := by omega
  have e2 : IntKind.i64.wrap (M : Int) = (M : Int) := IntWalk.i64_in _ (by omega)
  have e3 : (m : Int) - 1 = (p : Int) := by omega
  have e4 : IntKind.i64.wrap (p : Int) = (p : Int) := IntWalk.i64_in _ (by omega)
  have k1 : p < m := by omega
  have k2 : m ≤ p + 1 := by omega
  have k3 : M ≤ m + 1 := by omega
  have k4 : m < M := by omega
  clear g h ry Y hpm hM
  go_enter Try.func34, Try.ntmps34
  go_upto_region 3 with (first
    | (go_at_call 21; with_reducible (refine (mno_any gb _).mono ?_); rintro e w1 ⟨rfl, hb1⟩)
    | (go_at_call 20; with_reducible (refine (repeat_any _ 1 (by omega) M (by omega)).mono ?_); rintro e w2 ⟨rb, rfl, ht, hb2, hmr⟩))
  have HMR := hid hmr.out.1
  have HNB := hid (Nat.le_trans hb1.out.size hmr.out.2)
  have L0 : Hid (∃ n2 cs2 val2 zs, Ms B gb is n val (p - p) w w2 n2 cs2 val2 rb M zs (upF Bf m p)) := hid ⟨_, _, _, _, ((Ms.start HG.out G.out (Below.next hb1.out hb2.out) HMR.out HNB.out).mono (by omega)).as (fun j hj => by
    unfold upF
    by_cases hj2 : p < j
    · obtain rfl : j = m := by omega
      simp [ab_end]
    · simp [hj2])⟩
  clear ht hb2 hmr HMR HNB hb1 e1 e2 e3 e4
  go_loopw [6] (fun i wr => ∃ q : Nat, q ≤ p ∧ i = .int .i64 q ∧ Hid (∃ n2 cs2 val2 zs, Ms B gb is n val (p - q) w wr n2 cs2 val2 rb M zs (upF Bf m q))) (fun i _ => (intOf i).toNat)
  case atStart => exact ⟨p, Nat.le_refl _, rfl, L0⟩
  case round =>
    clear L0
    obtain ⟨q, hq, rfl, hst⟩ := hrel
    obtain ⟨n2, cs2, val2, zs, lp⟩ := hst.out
    have LP := hid lp
    clear lp hst
    by_cases hlt : 0 < q
    · have hlt' : (0 : Int) < q := by omega
      obtain ⟨b2, o2, rfl, cy⟩ := RY.out.cells (by omega)
      have CY := hid cy
      clear cy
      obtain ⟨yq, hyq, ryq, vyq⟩ := HY.out.at (j := q) (by omega)
      have Hyq := hid hyq
      have Ryq := hid ryq
      have Vyq := hid vyq
      obtain ⟨s, hs⟩ : ∃ s, s = q + 1 := ⟨_, rfl⟩
      have HS := hid hs
      obtain ⟨zq, hzq, rzq, vzq⟩ := LP.out.l.at (j := s) (by omega)
      have Hzq := hid hzq
      have Rzq := hid rzq
      have Vzq := hid vzq
      have f1 : (q : Int) + 1 = (s : Int) := by omega
      have f2 : IntKind.i64.wrap (s : Int) = (s : Int) := IntWalk.i64_in _ (by omega)
      have f3 : (0 : Int) ≤ s := by omega
      have f4 : (s : Int) < (M : Int) := by omega
      have f5 : (q : Int) < (M : Int) := by omega
      have f6 : (q : Int) < (m : Int) := by omega
      have f7 : (0 : Int) ≤ q := by omega
      have f8 : (q : Int) - 1 = ((q - 1 : Nat) : Int) := by omega
      have f9 : IntKind.i64.wrap ((q - 1 : Nat) : Int) = ((q - 1 : Nat) : Int) := IntWalk.i64_in _ (by omega)
      have SKq : Hid (∀ W, FG (B.and rb) w W → W.cell? ⟨b2, o2 + q, none⟩ = some (.int .i64 yq)) := hid (fun W f => CY.out _ W f _ _ Hyq.out)
      have hqm : q < M := by omega
      clear hyq ryq vyq hzq rzq vzq hs
      go_wp2
      go_region_held3 (fun W => W.cell? ⟨b2, o2 + q, none⟩ = some (.int .i64 yq) ∧ W.cell? ⟨rb, s, none⟩ = some (.int .i64 zq)) (first
        | exact ⟨SKq.out _ LP.out.s.f.drew, (LP.out.r.below (below_drew _)).get Hzq.out⟩
        | exact ⟨SKq.out _ LP5.out.s.f, LP5.out.r.get Hzq.out⟩
        | exact ⟨SKq.out _ (LP5.out.s.f.put LP5.out.nb _ _), (LP5.out.r.set q _).get (by rw [List.getElem?_set_ne (by have := HS.out; omega)]; exact Hzq.out)⟩) (first
        | (go_at_call 49; with_reducible (refine (or_any _ LP.out.s.g (LP.out.s.h.below (below_drew _)) (by have := LP.out.s.hi; omega) yq zq (rng_more Ryq.out LP.out.s.lo) Rzq.out).mono ?_); rintro e w5 ⟨y5, rfl, hend⟩; obtain ⟨n5, cs5, val5, lo5, hi5, LP5, ag5, RU5, HU5⟩ := LP.out.gate (below_drew _) hend.out; clear hend; obtain ⟨zc, cz⟩ := LP5.out.r.cell hqm; have fz := LP5.out.r.frozen q))
      have HV : Hid (hd val5 y5 = upF Bf m (q - 1) q) := hid (by
        rw [HU5.out, hd_agree LP.out.s.ag Ryq.out, Vyq.out, Vzq.out, HS.out]
        have a := ab_step Bf m q (by omega)
        have u1 : upF Bf m q (q + 1) = abF Bf m (q + 1) := by simp [upF]
        have u2 : upF Bf m (q - 1) q = abF Bf m q := by
          have : q - 1 < q := by omega
          simp [upF, this]
        rw [u1, u2, a])
      have LP7 := hid (LP5.out.put (S' := upF Bf m (q - 1)) hqm RU5.out HV.out (fun j hj hne => by
        unfold upF
        by_cases hj2 : q < j
        · have : q - 1 < j := by omega
          simp [hj2, this]
        · have : ¬ q - 1 < j := by omega
          simp [hj2, this]))
      go_wp2
      go_roundw
      case rel => exact ⟨q - 1, by omega, by go_num, hid ⟨_, _, _, _, LP7.out.mono (by omega)⟩⟩
      case measure => simp only [intOf]; omega
    · have hq0 : q = 0 := by omega
      subst hq0
      have RE := hid ((LP.out.mono (k' := m) (by omega)).rend (by omega) (by have := LP.out.s.hi; omega))
      go_wp2
      go_ret
      exact ⟨_, rfl, RE⟩

end Go.Proofs.Ytplhlfmibeennaa
