/-
  A literal is replaced by the others of its reason's clause.
-/
import Derived.Test.YtikdmgemhfmipaaGreatAH
namespace Go.Proofs.YtikdmgemhfmipaaGreat
open Go.RowKit
set_option linter.unusedVariables false

section
variable {k : SK} {w0 w w1 w' : World} {kt : K} {L : List E} {lev : Nat} {p : V} {cls : List (List Int)} {s s' : PS} {v v' : SV} {n : Nat}

def othr (x : Nat) (c : List Int) : List Int := c.filter (fun y => decide (y ≠ (x : Int)))

theorem othr_same {x : Nat} {c : List Int} {q : Nat} (h : c[q]? = some (x : Int)) : othr x (c.take (q + 1)) = othr x (c.take q) := by
  unfold othr; rw [take_snoc h, List.filter_append]; simp
theorem othr_more {x : Nat} {c : List Int} {q : Nat} {y : Int} (h : c[q]? = some y) (hne : y ≠ (x : Int)) : othr x (c.take (q + 1)) = othr x (c.take q) ++ [y] := by
  unfold othr; rw [take_snoc h, List.filter_append]; simp [hne]

/-- What is so while a reason's clause is gone over. -/
def GoingR (k : SK) (w0 : World) (n : Nat) (L : List E) (lev : Nat) (w : World) (s : PS) (v : SV) (x : Nat) (c : List Int) (q : Nat) (b : Bool) (wr : World) : Prop :=
  ∃ s1 v1, meetsP L lev s (othr x (c.take q)) = (true, s1) ∧ Rn k w0 n wr s1 v1 ∧ SF k v v1 w wr ∧ s.op ≤ s1.op ∧ b = decide ((x : Int) ∈ c.take q)

theorem GoingR.own {c : List Int} {q x : Nat} {wr : World} {s1 : PS} {v1 : SV} (h1 : meetsP L lev s (othr x (c.take q)) = (true, s1)) (r1 : Rn k w0 n wr s1 v1) (f1 : SF k v v1 w wr) (o1 : s.op ≤ s1.op) (hx : c[q]? = some (x : Int)) : GoingR k w0 n L lev w s v x c (q + 1) true wr :=
  ⟨s1, v1, by rw [othr_same hx]; exact h1, r1, f1, o1, by rw [take_snoc hx]; simp⟩

theorem GoingR.next {c : List Int} {q x : Nat} {y : Int} {b : Bool} {wr w3 : World} {s1 s2 : PS} {v1 v2 : SV} (h1 : meetsP L lev s (othr x (c.take q)) = (true, s1)) (f1 : SF k v v1 w wr) (o1 : s.op ≤ s1.op) (hb : b = decide ((x : Int) ∈ c.take q)) (hx : c[q]? = some y) (hne : y ≠ (x : Int)) (hm : meetP L lev s1 y = (true, s2)) (r2 : Rn k w0 n w3 s2 v2) (f2 : SF k v1 v2 wr w3) (o2 : s1.op ≤ s2.op) : GoingR k w0 n L lev w s v x c (q + 1) b w3 :=
  ⟨s2, v2, by rw [othr_more hx hne, meets_snoc (by rw [h1]), h1]; exact hm, r2, f1.trans f2, Int.le_trans o1 o2, by
    rw [hb, take_snoc hx]
    have hne' : ¬ (x : Int) = y := fun e => hne e.symm
    simp [hne']⟩

theorem othr_stop {c : List Int} {q x : Nat} {y : Int} {s1 s2 : PS} (h1 : meetsP L lev s (othr x (c.take q)) = (true, s1)) (hx : c[q]? = some y) (hne : y ≠ (x : Int)) (hm : meetP L lev s1 y = (false, s2)) : meetsP L lev s (othr x c) = (false, s2) := by
  have h2 : meetsP L lev s (othr x (c.take (q + 1))) = (false, s2) := by rw [othr_more hx hne, meets_snoc (by rw [h1]), h1]; exact hm
  have e : othr x c = othr x (c.take (q + 1)) ++ othr x (c.drop (q + 1)) := by unfold othr; rw [← List.filter_append, List.take_append_drop]
  rw [e, meets_app_no _ _ _ (by rw [h2])]; exact h2

theorem repl_none {x : Nat} (hr : clF cls (reasonF L ((x / 2 : Nat) : Int)) = none) : replP L lev cls s x = (false, s) := by unfold replP; rw [hr]
theorem repl_no {x : Nat} {c : List Int} (hr : clF cls (reasonF L ((x / 2 : Nat) : Int)) = some c) {s2 : PS} (h : meetsP L lev s (othr x c) = (false, s2)) : replP L lev cls s x = (false, s2) := by
  unfold replP; rw [hr]; unfold othr at h; simp only [h]; rw [if_neg (by decide)]
theorem repl_yes {x : Nat} {c : List Int} (hr : clF cls (reasonF L ((x / 2 : Nat) : Int)) = some c) {s2 : PS} (h : meetsP L lev s (othr x c) = (true, s2)) : replP L lev cls s x = (decide ((x : Int) ∈ c), { s2 with op := s2.op - 1 }) := by
  unfold replP; rw [hr]; unfold othr at h; simp only [h]; rw [if_pos trivial]

set_option maxHeartbeats 2000000 in
theorem replace_no (c : Cm k w0 kt L lev p cls) (h : Rn k w0 kt.n w s v) (x u : Nat) (hx : x / 2 = u) (hxx : (x : Int) ≤ 9223372036854775807) (r : Int) (hr : reasonF L u = r) (hh : decide (0 ≤ r ∧ r < cls.length) = false) :
    Calls Tryz.prog 53 #[.pointer (some ⟨k.SB, 0, none⟩), .int .i64 x] w fun e w' => e = .returned (.bool false) ∧ Below w.heap.size w w' := by
  have HC := hid c
  have HX := hid hx
  have HR := hid (h.below (below_drew w))
  have HRr := hid hr
  have HH := hid hh
  obtain ⟨c0, _⟩ := c.cell h
  clear c h hx hr hh
  go_enter Tryz.func53, Tryz.ntmps53
  go_upto_region 1 with fail
  go_region_with (first
    | (go_at_call 31; with_reducible (refine (var_nat _ _ HX.out hxx _).mono ?_); rintro e w2 ⟨rfl, b2⟩; have R2 := hid (HR.out.below b2); have c0' := (HC.out.cell R2.out).1)
    | (go_at_call 77; with_reducible (refine (reason_is (HC.out.trl R2.out) _ HRr.out).mono ?_); rintro e w2 ⟨rfl, rfl⟩))
  all_goals go_wp2_with (go_at_call 32; with_reducible (refine (has_is HC.out R2.out _ _ HH.out).mono ?_); rintro e w2 ⟨rfl, rfl⟩)
  all_goals go_ret
  all_goals exact ⟨rfl, Below.next (below_drew w) b2⟩

def ReplE (k : SK) (w0 : World) (n : Nat) (w : World) (q : Bool × PS) (v : SV) (e : Ending) (w' : World) : Prop := e = .returned (.bool q.1) ∧ ∃ v', Rn k w0 n w' q.2 v' ∧ SF k v v' w w'

theorem repl_wf (h : Rn k w0 n w s v) (hlt : ∀ e ∈ L, vr e < n) (x : Nat) : Wf n (replP L lev cls s x).2 ∧ s.op - 1 ≤ (replP L lev cls s x).2.op ∧ Mk2 (replP L lev cls s x).2 := h.wf.repl h.m2 x (fun y hy => vlA_lt hlt hy)

set_option maxHeartbeats 4000000 in
theorem replace_in (c : Cm k w0 kt L lev p cls) (h : Rn k w0 kt.n w s v) (x u : Nat) (hx : x / 2 = u) (hxx : (x : Int) ≤ 9223372036854775807) (r : Nat) (hr : reasonF L u = r) {cl : List Int} (hcl : cls[r]? = some cl) (hl0 : lev ≠ 0) (hop : -900000 ≤ s.op) :
    Calls Tryz.prog 53 #[.pointer (some ⟨k.SB, 0, none⟩), .int .i64 x] w fun e w' => ReplE k w0 kt.n w (replP L lev cls s x) v e w' := by
  obtain ⟨la, ln, cap, hcv, gr⟩ := c.gr
  have hrl := (List.getElem?_eq_some_iff.1 hcl).1
  have hgl := gr.1
  have hgm := gr.max
  obtain ⟨gb, go, a, m, cp, ys, rfl, gc, gy, grow⟩ := gr.at (show r < ln by omega)
  have : ys = cl := by have := gy.out; rw [hcl] at this; exact (Option.some.inj this).symm
  subst this
  have HH : Hid (decide (0 ≤ (r : Int) ∧ (r : Int) < cls.length) = true) := hid (by simp; omega)
  have HQ : Hid (clF cls (reasonF L ((x / 2 : Nat) : Int)) = some ys) := hid (by rw [hx, hr]; unfold clF; rw [if_neg (by omega)]; simpa using hcl)
  have hrn : (r : Int) < ln := by omega
  have hmx := grow.out.max
  have hlen := grow.out.1
  have HGC := hid gc
  have HCV := hid hcv
  have HC := hid c
  have HX := hid hx
  have HR0 := hid h
  have HR := hid (h.below (below_drew w))
  have HRr := hid hr
  have HWf := hid (repl_wf (L := L) (lev := lev) (cls := cls) h c.t.lits_lt x)
  have hou := h.wf.ou
  have hml := h.wf.len
  have hkn := c.hn
  obtain ⟨c0, _⟩ := c.cell h
  clear c h hx hr gr gc hcv hcl gy
  go_enter Tryz.func53, Tryz.ntmps53
  go_upto_region 1 with fail
  go_region_with (first
    | (go_at_call 31; with_reducible (refine (var_nat _ _ HX.out hxx _).mono ?_); rintro e w2 ⟨rfl, b2⟩; have R2 := hid (HR.out.below b2); have c0' := (HC.out.cell R2.out).1; have c1 := R2.out.r.c.2.1; rw [HCV.out] at c1; have c5 := (R2.out.b.cell (cell_lt HGC.out)).trans HGC.out)
    | (go_at_call 77; with_reducible (refine (reason_is (HC.out.trl R2.out) _ HRr.out).mono ?_); rintro e w2 ⟨rfl, rfl⟩))
  all_goals go_wp2_with (go_at_call 32; with_reducible (refine (has_is HC.out R2.out _ _ HH.out).mono ?_); rintro e w2 ⟨rfl, rfl⟩)
  all_goals
    have HG : Hid (GoingR k w0 kt.n L lev w s v x ys 0 false w2) := hid ⟨s, v, rfl, R2.out, SF.below (Below.next (below_drew w) b2), Int.le_refl _, by simp⟩
    go_loopw [6, 8, 28] (fun o _ i wr => ∃ (q : Nat) (b : Bool), q ≤ m ∧ o = .bool b ∧ i = .int .i64 q ∧ Hid (GoingR k w0 kt.n L lev w s v x ys q b wr)) (fun _ _ i _ => m - (intOf i).toNat)
    case atStart => exact ⟨0, false, Nat.zero_le _, rfl, rfl, HG⟩
    case round =>
      obtain ⟨q, bo, hq, rfl, rfl, hg⟩ := hrel
      obtain ⟨s1, v1, g1, r1, f1, o1, hb1⟩ := hg.out
      have G1 := hid g1
      have R1 := hid r1
      have F1 := hid f1
      have O1 := hid o1
      have B1 := hid hb1
      have hou1 := r1.wf.ou
      have hml1 := r1.wf.len
      by_cases hlt : q < m
      · have hlt' : (q : Int) < m := by omega
        obtain ⟨b, off, y, rfl, hc, hy, y0, y1⟩ := (grow.out.keep r1.b).at hlt
        have HY := hid hy
        have hop1 : -1000000 ≤ s1.op := by omega
        clear g1 r1 f1 o1 hy hg hb1
        by_cases hxy : y = (x : Int)
        · subst hxy
          have hxb : ((x : Int) == (x : Int)) = true := by simp
          go_wp2
          go_roundw
          case rel => exact ⟨q + 1, true, by omega, rfl, by go_num, hid (GoingR.own G1.out R1.out F1.out O1.out HY.out.out)⟩
          case measure => simp only [intOf]; omega
        · have hxb : (y == (x : Int)) = false := by simpa using hxy
          have HXY := hid hxy
          clear hxy
          go_wp2_with (go_at_call 52; with_reducible (refine (meet_at HC.out R1.out y y1 hl0 hop1).mono ?_); rintro e w3 ⟨b3, s3, v3, rfl, m3, r3, f3, o3⟩; cases b3)
          · go_ret
            rw [repl_no HQ.out (othr_stop G1.out HY.out.out HXY.out m3.out)]
            exact ⟨rfl, v3, r3.out, F1.out.trans f3.out⟩
          · go_roundw
            case rel => exact ⟨q + 1, bo, by omega, rfl, by go_num, hid (GoingR.next G1.out F1.out O1.out B1.out HY.out.out HXY.out m3.out r3.out f3.out o3.out)⟩
            case measure => simp only [intOf]; omega
      · obtain rfl : q = m := by omega
        have hlt' : ¬ (q : Int) < q := by omega
        have d4 := r1.r.c.2.2.2.2.2.1
        have d5 := r1.r.f 260
        have hop1 : -900000 ≤ s1.op := by omega
        clear g1 r1 f1 o1 hg hb1
        go_wp2
        go_ret
        have e1 : ys.take q = ys := List.take_of_length_le (by omega)
        have g2 := G1.out
        rw [e1] at g2
        have hb2 := B1.out
        rw [e1] at hb2
        have hrp := repl_yes HQ.out g2
        obtain ⟨r9, f9⟩ := R1.out.r.putop (s1.op - 1)
        have W := HWf.out
        rw [hrp] at W ⊢
        have F := F1.out.trans f9
        exact ⟨by rw [hb2]; rfl, v1, Rn.next HC.out R1.out r9 f9 W.1 W.2.2, F⟩

theorem repl_at (c : Cm k w0 kt L lev p cls) (h : Rn k w0 kt.n w s v) (x : Nat) (hxx : (x : Int) ≤ 9223372036854775807) (hl0 : lev ≠ 0) (hop : -900000 ≤ s.op) :
    Calls Tryz.prog 53 #[.pointer (some ⟨k.SB, 0, none⟩), .int .i64 x] w fun e w' => ∃ b s' v', e = .returned (.bool b) ∧ Hid (replP L lev cls s x = (b, s')) ∧ Hid (Rn k w0 kt.n w' s' v') ∧ Hid (SF k v v' w w') ∧ Hid (s.op - 1 ≤ s'.op) := by
  have hw := repl_wf (L := L) (lev := lev) (cls := cls) h c.t.lits_lt x
  by_cases hr : 0 ≤ reasonF L ((x / 2 : Nat) : Int) ∧ reasonF L ((x / 2 : Nat) : Int) < cls.length
  · obtain ⟨r, hrr⟩ := Int.eq_ofNat_of_zero_le hr.1
    obtain ⟨cl, hcl⟩ : ∃ cl, cls[r]? = some cl := ⟨_, List.getElem?_eq_getElem (by omega)⟩
    refine (replace_in c h x _ rfl hxx r hrr hcl hl0 hop).mono fun e w' q => ?_
    obtain ⟨q1, v', q2, q3⟩ := q
    exact ⟨_, _, v', q1, rfl, q2, q3, hw.2.1⟩
  · have hcl : clF cls (reasonF L ((x / 2 : Nat) : Int)) = none := by
      unfold clF
      by_cases h0 : reasonF L ((x / 2 : Nat) : Int) < 0
      · rw [if_pos h0]
      · rw [if_neg h0]
        rw [List.getElem?_eq_none_iff]
        omega
    have hrp := repl_none (L := L) (lev := lev) (s := s) hcl
    refine (replace_no c h x _ rfl hxx _ rfl (by simpa using hr)).mono fun e w' q => ?_
    exact ⟨_, s, v, q.1, hrp, h.below q.2, SF.below q.2, hid (by omega)⟩
end

end Go.Proofs.YtikdmgemhfmipaaGreat
