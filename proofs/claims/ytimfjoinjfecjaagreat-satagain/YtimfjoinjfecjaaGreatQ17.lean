/-
  A literal is replaced by the others of its reason's clause.
  A region that draws its order, in a round: each operation is looked at once, in whatever order they come.
-/
import Derived.Test.YtimfjoinjfecjaaGreatQ16
import Derived.RegionTactic
import Derived.OrdersIn
import Derived.RangeFuncCalls
import Derived.TacticsIn
import Derived.TacticsInMore

namespace Go.Proofs.YtimfjoinjfecjaaGreat
open Go.RowKit
set_option linter.unusedVariables false

section
variable {k : SK} {w0 w w1 w' : World} {kt : K} {L : List E} {lev : Nat} {p : V} {cls : List (List Int)} {s s' : PS} {v v' : SV} {n : Nat}

def othr (x : Nat) (c : List Int) : List Int := c.filter (fun y => decide (y ≠ (x : Int)))

theorem othr_same {x : Nat} {c : List Int} {q : Nat} (h : c[q]? = some (x : Int)) : othr x (c.take (q + 1)) = othr x (c.take q) := by
  unfold othr; rw [take_snoc h, List.filter_append]; simp
theorem othr_more {x : Nat} {c : List Int} {q : Nat} {y : Int} (h : c[q]? = some y) (hne : y ≠ (x : Int)) : othr x (c.take (q + 1)) = othr x (c.take q) ++ [y] := by
  unfold othr; rw [take_snoc h, List.filter_append]; simp [hne]

/-- What is so while a reason's clause is gone over. -/
def GoingR (k : SK) (w0 : World) (n : Nat) (L : List E) (lev : Nat) (w : World) (s : PS) (v : SV) (x : Nat) (c : List Int) (q : Nat) (b : Bool) (wr : World) : Prop :=
  ∃ s1 v1, meetsP L lev s (othr x (c.take q)) = (true, s1) ∧ Rn k w0 n wr s1 v1 ∧ SF k v v1 w wr ∧ s.op ≤ s1.op ∧ b = decide ((x : Int) ∈ c.take q)

theorem GoingR.own {c : List Int} {q x : Nat} {wr : World} {s1 : PS} {v1 : SV} (h1 : meetsP L lev s (othr x (c.take q)) = (true, s1)) (r1 : Rn k w0 n wr s1 v1) (f1 : SF k v v1 w wr) (o1 : s.op ≤ s1.op) (hx : c[q]? = some (x : Int)) : GoingR k w0 n L lev w s v x c (q + 1) true wr :=
  ⟨s1, v1, by rw [othr_same hx]; exact h1, r1, f1, o1, by rw [take_snoc hx]; simp⟩

theorem GoingR.next {c : List Int} {q x : Nat} {y : Int} {b : Bool} {wr w3 : World} {s1 s2 : PS} {v1 v2 : SV} (h1 : meetsP L lev s (othr x (c.take q)) = (true, s1)) (f1 : SF k v v1 w wr) (o1 : s.op ≤ s1.op) (hb : b = decide ((x : Int) ∈ c.take q)) (hx : c[q]? = some y) (hne : y ≠ (x : Int)) (hm : meetP L lev s1 y = (true, s2)) (r2 : Rn k w0 n w3 s2 v2) (f2 : SF k v1 v2 wr w3) (o2 : s1.op ≤ s2.op) : GoingR k w0 n L lev w s v x c (q + 1) b w3 :=
  ⟨s2, v2, by rw [othr_more hx hne, meets_snoc (by rw [h1]), h1]; exact hm, r2, f1.trans f2, Int.le_trans o1 o2, by
    rw [hb, take_snoc hx]
    have hne' : ¬ (x : Int) = y := fun e => hne e.symm
    simp [hne']⟩

theorem othr_stop {c : List Int} {q x : Nat} {y : Int} {s1 s2 : PS} (h1 : meetsP L lev s (othr x (c.take q)) = (true, s1)) (hx : c[q]? = some y) (hne : y ≠ (x : Int)) (hm : meetP L lev s1 y = (false, s2)) : meetsP L lev s (othr x c) = (false, s2) := by
  have h2 : meetsP L lev s (othr x (c.take (q + 1))) = (false, s2) := by rw [othr_more hx hne, meets_snoc (by rw [h1]), h1]; exact hm
  have e : othr x c = othr x (c.take (q + 1)) ++ othr x (c.drop (q + 1)) := by unfold othr; rw [← List.filter_append, List.take_append_drop]
  rw [e, meets_app_no _ _ _ (by rw [h2])]; exact h2

theorem repl_none {x : Nat} (hr : clF cls (reasonF L ((x / 2 : Nat) : Int)) = none) : replP L lev cls s x = (false, s) := by unfold replP; rw [hr]
theorem repl_no {x : Nat} {c : List Int} (hr : clF cls (reasonF L ((x / 2 : Nat) : Int)) = some c) {s2 : PS} (h : meetsP L lev s (othr x c) = (false, s2)) : replP L lev cls s x = (false, s2) := by
  unfold replP; rw [hr]; unfold othr at h; simp only [h]; rw [if_neg (by decide)]
theorem repl_yes {x : Nat} {c : List Int} (hr : clF cls (reasonF L ((x / 2 : Nat) : Int)) = some c) {s2 : PS} (h : meetsP L lev s (othr x c) = (true, s2)) : replP L lev cls s x = (decide ((x : Int) ∈ c), { s2 with op := s2.op - 1 }) := by
  unfold replP; rw [hr]; unfold othr at h; simp only [h]; rw [if_pos trivial]

set_option maxHeartbeats 2000000 in
theorem replace_no (c : Cm k w0 kt L lev p cls) (h : Rn k w0 kt.n w s v) (x u : Nat) (hx : x / 2 = u) (hxx : (x : Int) ≤ 9223372036854775807) (r : Int) (hr : reasonF L u = r) (hh : decide (0 ≤ r ∧ r < cls.length) = false) :
    Calls Tryz.prog 120 #[.pointer (some ⟨k.SB, 0, none⟩), .int .i64 x] w fun e w' => e = .returned (.bool false) ∧ Below w.heap.size w w' := by
  have HC := hid c
  have HX := hid hx
  have HR := hid (h.below (below_drew w))
  have HRr := hid hr
  have HH := hid hh
  obtain ⟨c0, _⟩ := c.cell h
  clear c h hx hr hh
  go_enter Tryz.func120, Tryz.ntmps120
  go_upto_region 1 with fail
  go_region_with (first
    | (go_at_call 24; with_reducible (refine (var_nat _ _ HX.out hxx _).mono ?_); rintro e w2 ⟨rfl, b2⟩; have R2 := hid (HR.out.below b2); have c0' := (HC.out.cell R2.out).1)
    | (go_at_call 89; with_reducible (refine (reason_is (HC.out.trl R2.out) _ HRr.out).mono ?_); rintro e w2 ⟨rfl, rfl⟩))
  all_goals go_wp2_with (go_at_call 80; with_reducible (refine (has_is HC.out R2.out _ _ HH.out).mono ?_); rintro e w2 ⟨rfl, rfl⟩)
  all_goals go_ret
  all_goals exact ⟨rfl, Below.next (below_drew w) b2⟩

def ReplE (k : SK) (w0 : World) (n : Nat) (w : World) (q : Bool × PS) (v : SV) (e : Ending) (w' : World) : Prop := e = .returned (.bool q.1) ∧ ∃ v', Rn k w0 n w' q.2 v' ∧ SF k v v' w w'

theorem repl_wf (h : Rn k w0 n w s v) (hlt : ∀ e ∈ L, vr e < n) (x : Nat) : Wf n (replP L lev cls s x).2 ∧ s.op - 1 ≤ (replP L lev cls s x).2.op ∧ Mk2 (replP L lev cls s x).2 := h.wf.repl h.m2 x (fun y hy => vlA_lt hlt hy)

set_option maxHeartbeats 4000000 in
theorem replace_in (c : Cm k w0 kt L lev p cls) (h : Rn k w0 kt.n w s v) (x u : Nat) (hx : x / 2 = u) (hxx : (x : Int) ≤ 9223372036854775807) (r : Nat) (hr : reasonF L u = r) {cl : List Int} (hcl : cls[r]? = some cl) (hl0 : lev ≠ 0) (hop : -900000 ≤ s.op) :
    Calls Tryz.prog 120 #[.pointer (some ⟨k.SB, 0, none⟩), .int .i64 x] w fun e w' => ReplE k w0 kt.n w (replP L lev cls s x) v e w' := by
  obtain ⟨la, ln, cap, hcv, gr⟩ := c.gr
  have hrl := (List.getElem?_eq_some_iff.1 hcl).1
  have hgl := gr.1
  have hgm := gr.max
  obtain ⟨gb, go, a, m, cp, ys, rfl, gc, gy, grow⟩ := gr.at (show r < ln by omega)
  have : ys = cl := by have := gy.out; rw [hcl] at this; exact (Option.some.inj this).symm
  subst this
  have HH : Hid (decide (0 ≤ (r : Int) ∧ (r : Int) < cls.length) = true) := hid (by simp; omega)
  have HQ : Hid (clF cls (reasonF L ((x / 2 : Nat) : Int)) = some ys) := hid (by rw [hx, hr]; unfold clF; rw [if_neg (by omega)]; simpa using hcl)
  have hrn : (r : Int) < ln := by omega
  have hmx := grow.out.max
  have hlen := grow.out.1
  have HGC := hid gc
  have HCV := hid hcv
  have HC := hid c
  have HX := hid hx
  have HR0 := hid h
  have HR := hid (h.below (below_drew w))
  have HRr := hid hr
  have HWf := hid (repl_wf (L := L) (lev := lev) (cls := cls) h c.t.lits_lt x)
  have hou := h.wf.ou
  have hml := h.wf.len
  have hkn := c.hn
  obtain ⟨c0, _⟩ := c.cell h
  clear c h hx hr gr gc hcv hcl gy
  go_enter Tryz.func120, Tryz.ntmps120
  go_upto_region 1 with fail
  go_region_with (first
    | (go_at_call 24; with_reducible (refine (var_nat _ _ HX.out hxx _).mono ?_); rintro e w2 ⟨rfl, b2⟩; have R2 := hid (HR.out.below b2); have c0' := (HC.out.cell R2.out).1; have c1 := R2.out.r.c.2.1; rw [HCV.out] at c1; have c5 := (R2.out.b.cell (cell_lt HGC.out)).trans HGC.out)
    | (go_at_call 89; with_reducible (refine (reason_is (HC.out.trl R2.out) _ HRr.out).mono ?_); rintro e w2 ⟨rfl, rfl⟩))
  all_goals go_wp2_with (go_at_call 80; with_reducible (refine (has_is HC.out R2.out _ _ HH.out).mono ?_); rintro e w2 ⟨rfl, rfl⟩)
  all_goals
    have HG : Hid (GoingR k w0 kt.n L lev w s v x ys 0 false w2) := hid ⟨s, v, rfl, R2.out, SF.below (Below.next (below_drew w) b2), Int.le_refl _, by simp⟩
    go_loopw [6, 8, 28] (fun o _ i wr => ∃ (q : Nat) (b : Bool), q ≤ m ∧ o = .bool b ∧ i = .int .i64 q ∧ Hid (GoingR k w0 kt.n L lev w s v x ys q b wr)) (fun _ _ i _ => m - (intOf i).toNat)
    case atStart => exact ⟨0, false, Nat.zero_le _, rfl, rfl, HG⟩
    case round =>
      obtain ⟨q, bo, hq, rfl, rfl, hg⟩ := hrel
      obtain ⟨s1, v1, g1, r1, f1, o1, hb1⟩ := hg.out
      have G1 := hid g1
      have R1 := hid r1
      have F1 := hid f1
      have O1 := hid o1
      have B1 := hid hb1
      have hou1 := r1.wf.ou
      have hml1 := r1.wf.len
      by_cases hlt : q < m
      · have hlt' : (q : Int) < m := by omega
        obtain ⟨b, off, y, rfl, hc, hy, y0, y1⟩ := (grow.out.keep r1.b).at hlt
        have HY := hid hy
        have hop1 : -1000000 ≤ s1.op := by omega
        clear g1 r1 f1 o1 hy hg hb1
        by_cases hxy : y = (x : Int)
        · subst hxy
          have hxb : ((x : Int) == (x : Int)) = true := by simp
          go_wp2
          go_roundw
          case rel => exact ⟨q + 1, true, by omega, rfl, by go_num, hid (GoingR.own G1.out R1.out F1.out O1.out HY.out.out)⟩
          case measure => simp only [intOf]; omega
        · have hxb : (y == (x : Int)) = false := by simpa using hxy
          have HXY := hid hxy
          clear hxy
          go_wp2_with (go_at_call 119; with_reducible (refine (meet_at HC.out R1.out y y1 hl0 hop1).mono ?_); rintro e w3 ⟨b3, s3, v3, rfl, m3, r3, f3, o3⟩; cases b3)
          · go_ret
            rw [repl_no HQ.out (othr_stop G1.out HY.out.out HXY.out m3.out)]
            exact ⟨rfl, v3, r3.out, F1.out.trans f3.out⟩
          · go_roundw
            case rel => exact ⟨q + 1, bo, by omega, rfl, by go_num, hid (GoingR.next G1.out F1.out O1.out B1.out HY.out.out HXY.out m3.out r3.out f3.out o3.out)⟩
            case measure => simp only [intOf]; omega
      · obtain rfl : q = m := by omega
        have hlt' : ¬ (q : Int) < q := by omega
        have d4 := r1.r.c.2.2.2.2.2.1
        have d5 := r1.r.f 260
        have hop1 : -900000 ≤ s1.op := by omega
        clear g1 r1 f1 o1 hg hb1
        go_wp2
        go_ret
        have e1 : ys.take q = ys := List.take_of_length_le (by omega)
        have g2 := G1.out
        rw [e1] at g2
        have hb2 := B1.out
        rw [e1] at hb2
        have hrp := repl_yes HQ.out g2
        obtain ⟨r9, f9⟩ := R1.out.r.putop (s1.op - 1)
        have W := HWf.out
        rw [hrp] at W ⊢
        have F := F1.out.trans f9
        exact ⟨by rw [hb2]; rfl, v1, Rn.next HC.out R1.out r9 f9 W.1 W.2.2, F⟩

theorem repl_at (c : Cm k w0 kt L lev p cls) (h : Rn k w0 kt.n w s v) (x : Nat) (hxx : (x : Int) ≤ 9223372036854775807) (hl0 : lev ≠ 0) (hop : -900000 ≤ s.op) :
    Calls Tryz.prog 120 #[.pointer (some ⟨k.SB, 0, none⟩), .int .i64 x] w fun e w' => ∃ b s' v', e = .returned (.bool b) ∧ Hid (replP L lev cls s x = (b, s')) ∧ Hid (Rn k w0 kt.n w' s' v') ∧ Hid (SF k v v' w w') ∧ Hid (s.op - 1 ≤ s'.op) := by
  have hw := repl_wf (L := L) (lev := lev) (cls := cls) h c.t.lits_lt x
  by_cases hr : 0 ≤ reasonF L ((x / 2 : Nat) : Int) ∧ reasonF L ((x / 2 : Nat) : Int) < cls.length
  · obtain ⟨r, hrr⟩ := Int.eq_ofNat_of_zero_le hr.1
    obtain ⟨cl, hcl⟩ : ∃ cl, cls[r]? = some cl := ⟨_, List.getElem?_eq_getElem (by omega)⟩
    refine (replace_in c h x _ rfl hxx r hrr hcl hl0 hop).mono fun e w' q => ?_
    obtain ⟨q1, v', q2, q3⟩ := q
    exact ⟨_, _, v', q1, rfl, q2, q3, hw.2.1⟩
  · have hcl : clF cls (reasonF L ((x / 2 : Nat) : Int)) = none := by
      unfold clF
      by_cases h0 : reasonF L ((x / 2 : Nat) : Int) < 0
      · rw [if_pos h0]
      · rw [if_neg h0]
        rw [List.getElem?_eq_none_iff]
        omega
    have hrp := repl_none (L := L) (lev := lev) (s := s) hcl
    refine (replace_no c h x _ rfl hxx _ rfl (by simpa using hr)).mono fun e w' q => ?_
    exact ⟨_, s, v, q.1, hrp, h.below q.2, SF.below q.2, hid (by omega)⟩
end

end Go.Proofs.YtimfjoinjfecjaaGreat

namespace Go.Proofs.YtimfjoinjfecjaaGreat
open Go.RowKit Go.Shelf
set_option linter.unusedVariables false

section
variable {F : Fence} {n : Nat} {P : Program} {ops : Array Oper} {Q : Exit → Act → World → Prop} {md : Region.Mode}

def leftN (listed : Array Bool) : Nat := listed.toList.count false

theorem left_set {listed : Array Bool} {i : Nat} (h : listed.getD i true = false) : leftN (listed.setIfInBounds i true) + 1 = leftN listed := by
  have hi : i < listed.size := by
    rcases Nat.lt_or_ge i listed.size with h' | h'
    · exact h'
    · simp [Array.getElem?_eq_none h'] at h
  have hv : listed.toList[i] = false := by simpa [hi] using h
  unfold leftN
  rw [Array.toList_setIfInBounds, List.count_set (by simpa using hi)]
  have : 0 < listed.toList.count false := List.count_pos_iff.2 (by rw [← hv]; exact List.getElem_mem _)
  rw [hv]
  show listed.toList.count false - 1 + 0 + 1 = listed.toList.count false
  omega

theorem ready_false {listed : Array Bool} {i : Nat} (h : i ∈ Region.ready md ops listed) : listed.getD i true = false := (mem_ready.1 h).1

theorem any_inv (J : Array Bool → Act → World → Prop)
    (hstep : ∀ listed a w i, J listed a w → listed.size = ops.size → i ∈ Region.ready md ops listed → wpOpIn F n P ops Q i (J (listed.setIfInBounds i true)) a w)
    (hdone : ∀ listed a w, J listed a w → listed.size = ops.size → Region.ready md ops listed = [] → Q .normal a w) :
    ∀ (fuel : Nat) (listed : Array Bool) (a : Act) (w : World), listed.size = ops.size → leftN listed ≤ fuel → J listed a w → wpAnyIn F n P md ops Q fuel listed a w := by
  intro fuel
  induction fuel with
  | zero =>
    intro listed a w hs hf hj
    have hr : Region.ready md ops listed = [] := by
      rw [List.eq_nil_iff_forall_not_mem]
      intro i hi
      have := left_set (ready_false hi)
      omega
    exact ⟨hr, hdone listed a w hj hs hr⟩
  | succ fuel ih =>
    intro listed a w hs hf hj
    refine ⟨fun hr => hdone listed a w hj hs hr, fun i hi => ?_⟩
    refine wpOpIn_mono (fun a' w' hj' => ih _ a' w' (by simpa using hs) ?_ hj') (hstep listed a w i hj hs hi)
    have := left_set (ready_false hi)
    omega

/-- No operation waits for itself or a later one. -/
def Acyclic (md : Region.Mode) (ops : Array Oper) : Bool := (List.range ops.size).all fun i => ((ops[i]?).map (·.after.all fun e => !Region.binds md e || decide (e.on < i))).getD true

theorem all_listed (hac : Acyclic md ops = true) {listed : Array Bool} (hs : listed.size = ops.size) (hr : Region.ready md ops listed = []) : listed = Array.replicate ops.size true := by
  have key : ∀ n i, i < n → i < ops.size → listed.getD i false = true := by
    intro n
    induction n with
    | zero => intro i h; omega
    | succ n ih =>
      intro i hi hio
      cases hl : listed.getD i true with
      | true =>
        have hil : i < listed.size := by omega
        simp [hil] at hl ⊢
        exact hl
      | false =>
        exfalso
        have hm : i ∈ Region.ready md ops listed := by
          refine mem_ready.2 ⟨hl, ops[i], Array.getElem?_eq_getElem hio, fun e he hb => ?_⟩
          have h1 := (List.all_eq_true.1 hac) i (List.mem_range.2 hio)
          rw [Array.getElem?_eq_getElem hio] at h1
          simp only [Option.map_some, Option.getD_some, Array.all_eq_true_iff_forall_mem] at h1
          have h2 := h1 e he
          simp [hb] at h2
          exact ih e.on (by omega) (by omega)
        rw [hr] at hm
        simp at hm
  apply Array.ext
  · simpa using hs
  · intro i h1 h2
    have := key (i + 1) i (by omega) (by omega)
    simp [h1] at this
    simp [this]

/-- The frame when some operations have been carried out: each has its slot and its value. -/
def mkf (base : Act) (own : Nat → Option (Nat × Value)) (listed : Array Bool) : Act :=
  { base with tmps := base.tmps.mapIdx (fun s old => match own s with | some (i, v) => if listed.getD i false then v else old | none => old) }

variable {base : Act} {own : Nat → Option (Nat × Value)} {listed : Array Bool}

theorem mk_dep {s i : Nat} {v : Value} (h : own s = some (i, v)) (hl : listed.getD i false = true) (hs : s < base.tmps.size) : (mkf base own listed).eval (.tmp s) = v := by
  simp only [Act.eval, mkf, Array.getD_eq_getD_getElem?, Array.getElem?_mapIdx, Array.getElem?_eq_getElem hs, Option.map_some, Option.getD_some, h]
  rw [if_pos (by simpa using hl)]

theorem mk_base {s : Nat} (h : own s = none) : (mkf base own listed).eval (.tmp s) = base.eval (.tmp s) := by
  simp only [Act.eval, mkf, Array.getD_eq_getD_getElem?, Array.getElem?_mapIdx, h]
  cases base.tmps[s]? <;> rfl

theorem mk_put (hinj : ∀ s s' i v v', own s = some (i, v) → own s' = some (i, v') → s = s') {s i : Nat} {v : Value} (h : own s = some (i, v)) (hi : i < listed.size) : (mkf base own listed).put (some s) v = mkf base own (listed.setIfInBounds i true) := by
  simp only [Act.put, mkf, Act.mk.injEq, and_true]
  apply Array.ext_getElem?
  intro t
  rw [Array.getElem?_setIfInBounds]
  simp only [Array.getElem?_mapIdx, Array.size_mapIdx]
  by_cases e : s = t
  · subst e
    rw [if_pos rfl, h]
    by_cases hs : s < base.tmps.size
    · rw [if_pos hs, Array.getElem?_eq_getElem hs]
      simp [hi]
    · rw [if_neg hs, Array.getElem?_eq_none (by omega)]
      rfl
  · rw [if_neg e]
    cases ho : own t with
    | none => rfl
    | some y =>
      obtain ⟨j, u⟩ := y
      have hj : i ≠ j := fun c => e (hinj s t i v u h (by rw [c]; exact ho))
      simp only [getD_set_ne false hj]

/-- An operation that yields, in a round. -/
theorem step_valueIn {R : World → Prop} {l : Nat} (hinj : ∀ s s' i v v', own s = some (i, v) → own s' = some (i, v') → s = s') {i s : Nat} {o : Oper} {v : Value} {w : World} (ho : ops[i]? = some o) (hw : Region.wanted o (yielded ops (mkf base own listed).tmps) = true) (hd : o.dst = some s) (h : own s = some (i, v)) (hi : i < listed.size) (hdf : ∀ c, o.op ≠ .defer c)
    (hr : (execOp (mkf base own listed).eval o).run P w = .ok (.value v) w) (hR : R w) : wpOpIn (Fence.wide.inRound l) n P ops Q i (fun a' w' => a' = mkf base own (listed.setIfInBounds i true) ∧ R w') (mkf base own listed) w := by
  unfold wpOpIn
  simp only [ho, hw, if_true]
  refine ⟨fun _ _ => trivial, ?_⟩
  rw [Fence.inRound_round, Oper.semAt_some _ _ _ hdf, hr, Oper.uponIn_value, hd, mk_put hinj h hi]
  exact ⟨rfl, hR⟩

/-- A call, in a round. -/
theorem step_callIn {R : World → Prop} {l : Nat} (hinj : ∀ s s' i v v', own s = some (i, v) → own s' = some (i, v') → s = s') {i s f : Nat} {args : Array Value} {o : Oper} {v : Value} {w : World} (ho : ops[i]? = some o) (hw : Region.wanted o (yielded ops (mkf base own listed).tmps) = true) (hd : o.dst = some s) (h : own s = some (i, v)) (hi : i < listed.size) (hdf : ∀ c, o.op ≠ .defer c)
    (hr : (execOp (mkf base own listed).eval o).run P w = .ok (.enter f args) w) (hc : Calls P f args w fun e w' => e = .returned v ∧ R w') : wpOpIn (Fence.wide.inRound l) n P ops Q i (fun a' w' => a' = mkf base own (listed.setIfInBounds i true) ∧ R w') (mkf base own listed) w := by
  unfold wpOpIn
  simp only [ho, hw, if_true]
  refine ⟨fun _ _ => trivial, ?_⟩
  rw [Fence.inRound_round, Oper.semAt_some _ _ _ hdf, hr, Oper.uponIn_enter]
  refine ⟨fun e => (by cases e), ?_⟩
  refine (CallsIn.inRound l (callsIn_wide.2 hc)).mono fun e w' ⟨he, hR⟩ => ?_
  subst he
  show _ ∧ _
  rw [hd, mk_put hinj h hi]
  exact ⟨rfl, hR⟩

/-- The region, by its operations one by one. -/
theorem regionIn_inv {id : Nat} {a : Act} {w : World} (R : World → Prop) (hm : P.follows .mixedOrders = true) (hac : Acyclic .any ops = true) (own : Nat → Option (Nat × Value)) (B : Act) (hB : mkf a own (Array.replicate ops.size true) = B)
    (hR : R w.drew)
    (hstep : ∀ i o, ops[i]? = some o → ∀ (listed : Array Bool) (w : World), i < listed.size → (∀ e ∈ o.after, Region.binds .any e = true → listed.getD e.on false = true) → R w → wpOpIn F n P ops Q i (fun a' w' => a' = mkf a own (listed.setIfInBounds i true) ∧ R w') (mkf a own listed) w)
    (hdone : ∀ w, R w → Q .normal B w) : (Code.region id ops true).wpIn F n P Q a w := by
  refine wpIn_region_any hm ?_
  refine any_inv (fun listed a' w' => a' = mkf a own listed ∧ R w') ?_ ?_ _ _ _ _ (by simp) ?_ ⟨?_, hR⟩
  · intro listed a' w' i hj hs hi
    obtain ⟨rfl, hR'⟩ := hj
    obtain ⟨h1, o, ho, h2⟩ := mem_ready.1 hi
    have hlt : i < listed.size := by
      rcases Nat.lt_or_ge i listed.size with h' | h'
      · exact h'
      · simp [Array.getElem?_eq_none h'] at h1
    exact hstep i o ho listed w' hlt h2 hR'
  · intro listed a' w' hj hs hr
    obtain ⟨rfl, hR'⟩ := hj
    rw [all_listed hac hs hr, hB]
    exact hdone w' hR'
  · simp [leftN]
  · have e : mkf a own (Array.replicate ops.size false) = a := by
      cases a
      simp only [mkf, Act.mk.injEq, and_true]
      apply Array.ext
      · simp
      · intro t h1 h2
        simp only [Array.getElem_mapIdx]
        cases own t with
        | none => rfl
        | some y => obtain ⟨i, v⟩ := y; simp [Array.getElem?_replicate]; split <;> simp_all
    exact e.symm
end

section
variable {ev : Operand → Value} {o : Oper} {w : World}

theorem wanted_none {y : Nat → Option Bool} (hg : o.guard = none) : Region.wanted o y = true := by simp [Region.wanted, hg]
theorem op_move {x : Operand} (ho : o.op = .move x) {v : Value} (hv : ev x = v) : (execOp ev o).run Tryz.prog w = .ok (.value v) w := by
  simp [go_sem, execOp, ho, hv]



theorem op_neq {x y : Operand} (ho : o.op = .binOp .neq 3 x y 3) {a b : Int} {c : Bool} (hx : ev x = .int .i64 a) (hy : ev y = .int .i64 b) (hc : (a != b) = c) : (execOp ev o).run Tryz.prog w = .ok (.value (.bool c)) w := by
  subst hc
  simp [go_sem, execOp, ho, hx, hy]
theorem op_load {T : TypeId} {x : Operand} (hT : T = 151 ∨ T = 51 ∨ T = 3) (ho : o.op = .load T x) {ad : Addr} {v : Value} (hx : ev x = .pointer (some ad)) (hc : w.cell? ad = some v) : (execOp ev o).run Tryz.prog w = .ok (.value v) w := by
  rcases hT with rfl | rfl | rfl <;> simp [go_sem, execOp, ho, hx, hc]
theorem op_nil {x : Operand} (ho : o.op = .nilCheck x) {ad : Addr} (hx : ev x = .pointer (some ad)) : (execOp ev o).run Tryz.prog w = .ok (.value (.pointer (some ad))) w := by
  simp [go_sem, execOp, ho, hx]
theorem op_f0 {x : Operand} (ho : o.op = .fieldAddr 124 x 0) {b : Nat} (hx : ev x = .pointer (some ⟨b, 0, none⟩)) : (execOp ev o).run Tryz.prog w = .ok (.value (.pointer (some ⟨b, 0, none⟩))) w := by
  simp [go_sem, execOp, ho, hx]
theorem op_f2 {x : Operand} (ho : o.op = .fieldAddr 124 x 2) {b : Nat} (hx : ev x = .pointer (some ⟨b, 0, none⟩)) : (execOp ev o).run Tryz.prog w = .ok (.value (.pointer (some ⟨b, 2, none⟩))) w := by
  simp [go_sem, execOp, ho, hx]
theorem op_call {f : FuncId} {xs : Array Operand} {ts : Array TypeId} (ho : o.op = .call { callee := .value (.func f), args := xs, argTypes := ts }) (hf : ev (.func f) = .func (.func f) #[] #[]) {args : Array Value} (ha : xs.map ev = args) (eg : ∀ args w, (callFunc f args).run Tryz.prog w = .ok (.enter f args) w) : (execOp ev o).run Tryz.prog w = .ok (.enter f args) w := by
  subst ha
  simp [go_sem, execOp, ho, hf, resolve, invoke, eg]
end

theorem args2 {ev : Operand → Value} {x y : Operand} {a b : Value} (h : ev x = a) (g : ev y = b) : #[x, y].map ev = #[a, b] := by simp [h, g]

def ownAt (o : Nat) (vals : List Value) (s : Nat) : Option (Nat × Value) := if o ≤ s then (vals[s - o]?).map (fun v => (s - o, v)) else none

theorem ownAt_inj (o : Nat) (vals : List Value) : ∀ s s' i v v', ownAt o vals s = some (i, v) → ownAt o vals s' = some (i, v') → s = s' := by
  intro s s' i v v' h h'
  unfold ownAt at h h'
  split at h
  · split at h'
    · simp only [Option.map_eq_some_iff, Prod.mk.injEq] at h h'
      obtain ⟨_, _, h1, _⟩ := h
      obtain ⟨_, _, h2, _⟩ := h'
      omega
    · simp at h'
  · simp at h

def AllFrom (St : Nat → Oper → Prop) : Nat → List Oper → Prop
  | _, [] => True
  | n, o :: l => St n o ∧ AllFrom St (n + 1) l

theorem AllFrom.nil {St : Nat → Oper → Prop} {n : Nat} : AllFrom St n [] := trivial
theorem AllFrom.cons {St : Nat → Oper → Prop} {n m : Nat} {o : Oper} {l : List Oper} (hm : m = n + 1) (h : St n o) (hl : AllFrom St m l) : AllFrom St n (o :: l) := by subst hm; exact ⟨h, hl⟩

theorem all_from {St : Nat → Oper → Prop} : ∀ (l : List Oper) (n : Nat), AllFrom St n l → ∀ (i : Nat) (o : Oper), l[i]? = some o → St (n + i) o
  | [], _, _, i, o, h => by simp at h
  | a :: l, n, ha, 0, o, h => by simp at h; subst h; exact ha.1
  | a :: l, n, ha, i + 1, o, h => by
    have := all_from l (n + 1) ha.2 i o (by simpa using h)
    rw [show n + (i + 1) = n + 1 + i by omega]
    exact this

theorem steps_of {l : List Oper} {St : Nat → Oper → Prop} (h : AllFrom St 0 l) : ∀ (i : Nat) (o : Oper), l.toArray[i]? = some o → St i o := fun i o ho => by
  have := all_from l 0 h i o (by simpa using ho)
  rwa [Nat.zero_add] at this

/-- One operation, in whatever order the others come. -/
def StepOf (F : Fence) (n : Nat) (P : Program) (ops : Array Oper) (Q : Exit → Act → World → Prop) (a : Act) (own : Nat → Option (Nat × Value)) (R : World → Prop) (i : Nat) (o : Oper) : Prop :=
  ops[i]? = some o → ∀ (listed : Array Bool) (w : World), i < listed.size → (∀ e ∈ o.after, Region.binds .any e = true → listed.getD e.on false = true) → R w → wpOpIn F n P ops Q i (fun a' w' => a' = mkf a own (listed.setIfInBounds i true) ∧ R w') (mkf a own listed) w

theorem regionIn_by {F : Fence} {n : Nat} {P : Program} {l : List Oper} {Q : Exit → Act → World → Prop} {id : Nat} {a : Act} {w : World} (R : World → Prop) (hm : P.follows .mixedOrders = true) (hac : Acyclic .any l.toArray = true) (own : Nat → Option (Nat × Value)) (B : Act) (hB : mkf a own (Array.replicate l.toArray.size true) = B)
    (hR : R w.drew) (hst : ∀ (ops : Array Oper) (Q' : Exit → Act → World → Prop) (a' : Act), (∀ (i : Nat) (o : Oper), l[i]? = some o → ops[i]? = some o) → a' = a → AllFrom (StepOf F n P ops Q' a' own R) 0 l)
    (hdone : ∀ w, R w → Q .normal B w) : (Code.region id l.toArray true).wpIn F n P Q a w := by
  refine regionIn_inv R hm hac own B hB hR (fun i o ho listed w' h1 h2 h3 => ?_) hdone
  have h := steps_of (hst l.toArray Q a (fun i o h => by simpa using h) rfl) i o ho
  exact h ho listed w' h1 h2 h3

end Go.Proofs.YtimfjoinjfecjaaGreat
