/-
  decideNext: the variable that is next is decided.
  Glue: how many levels.
-/
import Derived.Test.YtimfjoinjfecjaaGreatQ26
import Derived.Test.YtimfjoinjfecjaaGreatQ34

namespace Go.Proofs.YtimfjoinjfecjaaGreat
open Go.RowKit Go.Maps
set_option linter.unusedVariables false

/-- The literal of a variable, by the truth that it had last. -/
def litT (tr : List Bool) (v : Nat) : Nat := 2 * v + (if tr.getD v false then 0 else 1)

def decS (n : Nat) (s : SS) (x : Int) : SS := upW s (addL n s.L x (s.lev + 1) (-1)) (decV n s.L s.lev x) s.H

def decF (n : Nat) : Nat → SS → Bool × SS
  | 0, s => (false, s)
  | f + 1, s =>
    if Od.popA s.A s.W then
      (if mayF n s.L (litT s.tr (Od.popV s.A s.W).toNat : Nat) then (true, decS n (upO s s.A (Od.popW s.A s.W)) (litT s.tr (Od.popV s.A s.W).toNat : Nat))
       else decF n f (decS n (upO s s.A (Od.popW s.A s.W)) (litT s.tr (Od.popV s.A s.W).toNat : Nat)))
    else (false, upO s s.A (Od.popW s.A s.W))

theorem pop_some {A : List Int} {W : List Bool} (h : Od.popA A W = true) : ∃ v : Nat, Od.popV A W = v ∧ v < A.length ∧ Od.wt W v = true := by
  unfold Od.popA Od.popV at *
  rcases Od.bestF_is A W A.length with ⟨e, _⟩ | ⟨v, e, q⟩
  · rw [e] at h; simp at h
  · exact ⟨v, e, q.1, q.2.1⟩

theorem pop_count {A : List Int} {W : List Bool} (h : Od.popA A W = true) (hl : W.length = A.length) : (Od.popW A W).count true + 1 = W.count true := by
  obtain ⟨v, e, hv, hw⟩ := pop_some h
  unfold Od.popW
  rw [if_pos h, e, Int.toNat_natCast]
  exact Od.count_false (by omega) hw

section
variable {c : SC} {w0 w w' : World} {g g' : G} {s s' : SS} {m m' : MV}

theorem Od.Ord.lens {k : Od.K} {A : List Int} {W : List Bool} {v : Value} (h : Od.Ord k w A W v) : A.length = k.n ∧ W.length = k.n ∧ k.n ≤ 1048576 := by
  obtain ⟨hs, ⟨P, s, p⟩, hp, q⟩ := h
  exact ⟨s.la, q.lw, s.hn⟩

theorem make_no (v : Nat) (hv : v ≤ 1048575) (w : World) : Calls Tryz.prog 61 #[.int .i64 v, .bool false] w fun e w' => e = .returned (.tuple #[.int .i64 (2 * (v : Int)), .int .i64 0]) ∧ Below w.heap.size w w' := by
  have h1 : ¬ (v : Int) < 0 := by omega
  have h2 : ¬ (1048576 : Int) ≤ v := by omega
  go_enter Tryz.func61, Tryz.ntmps61
  go_wp2
  go_ret2
  exact ⟨rfl, by go_grown⟩
theorem make_yes (v : Nat) (hv : v ≤ 1048575) (w : World) : Calls Tryz.prog 61 #[.int .i64 v, .bool true] w fun e w' => e = .returned (.tuple #[.int .i64 (2 * (v : Int) + 1), .int .i64 0]) ∧ Below w.heap.size w w' := by
  have h1 : ¬ (v : Int) < 0 := by omega
  have h2 : ¬ (1048576 : Int) ≤ v := by omega
  go_enter Tryz.func61, Tryz.ntmps61
  go_wp2
  go_ret2
  exact ⟨rfl, by go_grown⟩
theorem make_is (v x : Nat) (b : Bool) (hv : v ≤ 1048575) (hx : 2 * v + (if b then 0 else 1) = x) (w : World) : Calls Tryz.prog 61 #[.int .i64 v, .bool (!b)] w fun e w' => e = .returned (.tuple #[.int .i64 x, .int .i64 0]) ∧ Below w.heap.size w w' := by
  cases b
  · have e : (x : Int) = 2 * (v : Int) + 1 := by simp at hx; omega
    rw [e]; exact make_yes v hv w
  · have e : (x : Int) = 2 * (v : Int) := by simp at hx; omega
    rw [e]; exact make_no v hv w

theorem Sm.tcell {v : Nat} {b : Bool} (h : Sm c w0 g s m w) (hv : v < c.kw.n) (hb : s.tr.getD v false = b) : w.cell? ⟨m.tb, v, none⟩ = some (.bool b) := by
  rw [cell_of h.tr.1]
  have hl := h.tr.2
  simp only [List.getD_eq_getElem?_getD] at hb
  rw [List.getElem?_eq_getElem (by omega)] at hb
  simp at hb
  simp [List.getElem?_eq_getElem (show v < s.tr.length by omega), hb]

/-- The trail has changed. -/
theorem Sm.trl {L' : List E} {lev' : Nat} {p' : V} (h : Sm c w0 g s m w) (W' : Wa c.k c.kw w' g L' lev' p' s.H) (f : FT c.k c.kw.B m.p p' w w') : Nx c w0 w m g (upW s L' lev' s.H) w' := by
  have := h.wa W' f (fun i hi hg j e h0 hj => h.t.ft j (.inr (.inr (.inl ⟨i, hi, hg, e, h0⟩)))) (fun h0 j e hj => h.t.ft j (.inr (.inr (.inr ⟨h0, e⟩))))
  exact ⟨_, this.1, this.2⟩

theorem sdecide (h : Sm c w0 g s m w) (x : Int) (hx : x ≤ 9223372036854775807) {b : Bool} (hb : mayF c.kw.n s.L x = b) : Calls Tryz.prog 62 #[.pointer (some ⟨c.k.OB, 0, none⟩), .int .i64 x] w fun e w' => e = .returned (.bool b) ∧ Hid (Nx c w0 w m g (decS c.kw.n s x) w') := by
  refine (wa_decide h.W x hx).mono fun e w' q => ?_
  obtain ⟨b', L', lev', p', rfl, ⟨h1, h2, h3⟩, W', F'⟩ := q
  rw [h.W.j.n] at h1 h2 h3
  rw [h2, h3] at W'
  refine ⟨by rw [h1, hb], h.trl W'.out F'.out⟩

def cntOf (s : SS) : Nat := s.W.count true

def NxW (c : SC) (w0 w : World) (m : MV) (g : G) (s : SS) (b : Bool) (w' : World) : Prop := ∃ s', decF c.kw.n (cntOf s + 1) s = (b, s') ∧ Nx c w0 w m g s' w'

theorem decF_yes {n f : Nat} {s : SS} {v x : Nat} (h : Od.popA s.A s.W = true) (hv : Od.popV s.A s.W = v) (hx : litT s.tr v = x) (hm : mayF n s.L (x : Nat) = true) : decF n (f + 1) s = (true, decS n (upO s s.A (Od.popW s.A s.W)) (x : Nat)) := by
  unfold decF; rw [if_pos h, hv, Int.toNat_natCast, hx, if_pos hm]
theorem decF_no {n f : Nat} {s : SS} {v x : Nat} (h : Od.popA s.A s.W = true) (hv : Od.popV s.A s.W = v) (hx : litT s.tr v = x) (hm : mayF n s.L (x : Nat) = false) : decF n (f + 1) s = decF n f (decS n (upO s s.A (Od.popW s.A s.W)) (x : Nat)) := by
  rw [decF, if_pos h, hv, Int.toNat_natCast, hx, if_neg (by rw [hm]; decide)]
theorem decF_none {n f : Nat} {s : SS} (h : Od.popA s.A s.W = false) : decF n (f + 1) s = (false, upO s s.A (Od.popW s.A s.W)) := by
  rw [decF, if_neg (by rw [h]; decide)]

/-- How many wait, as the solver's order has it. -/
def waitOf (c : SC) (w : World) : Nat := match w.cell? ⟨c.ko.OB, 1, none⟩ with
  | some (.slice _ n _) => n
  | _ => 0
theorem wait_of (h : Sm c w0 g s m w) : waitOf c w = cntOf s := by
  obtain ⟨hs, ⟨P, r, p⟩, hp, q⟩ := h.o
  unfold waitOf
  obtain ⟨ao, cap, e⟩ := r.shape
  rw [r.c1, e]
  exact q.cn.symm

set_option maxHeartbeats 4000000 in
theorem decide_s (h : Sm c w0 g s m w) : Calls Tryz.prog 36 #[.pointer (some ⟨c.SB, 0, none⟩)] w fun e w' => ∃ b, e = .returned (.bool b) ∧ Hid (NxW c w0 w m g s b w') := by
  have H := hid h
  clear h
  go_enter Tryz.func36, Tryz.ntmps36
  go_wp2
  go_loopw [] (fun wr => ∃ (f : Nat) (s1 : SS) (m1 : MV), Hid (cntOf s1 + 1 ≤ f) ∧ Hid (decF c.kw.n f s1 = decF c.kw.n (cntOf s + 1) s) ∧ Hid (Sm c w0 g s1 m1 wr) ∧ Hid (Kp w0 w m.ow wr m1.ow)) (fun wr => waitOf c wr)
  case atStart => exact ⟨cntOf s + 1, s, m, hid (Nat.le_refl _), hid rfl, H, hid (Kp.refl _ _ _)⟩
  case round =>
    clear H
    obtain ⟨f, s1, m1, hf, hd, h1, k1⟩ := hrel
    obtain ⟨f', rfl⟩ : ∃ f', f = f' + 1 := ⟨f - 1, by have := hf.out; omega⟩
    have c2 := h1.out.c2
    obtain ⟨la, lw, ln⟩ := h1.out.o.lens
    have hn := h1.out.hn
    have NW := hid (wait_of h1.out)
    cases hp : Od.popA s1.A s1.W
    · obtain ⟨v, hv⟩ : ∃ v, Od.popV s1.A s1.W = v := ⟨_, rfl⟩
      have HD : Hid (decF c.kw.n (cntOf s + 1) s = (false, upO s1 s1.A (Od.popW s1.A s1.W))) := hid (by rw [← hd.out, decF_none hp])
      have C := hid (spop h1.out)
      rw [hp, hv] at C
      clear h1 hd hf la lw ln hn hp hv
      go_wp2_with (first
        | (go_at_call 60; with_reducible (refine C.out.mono ?_); rintro e w5 ⟨rfl, n5⟩))
      go_ret
      refine ⟨false, rfl, ⟨_, HD.out, ?_⟩⟩
      obtain ⟨m5, h5, k5⟩ := n5.out
      exact ⟨m5, h5, k1.out.trans k5⟩
    · obtain ⟨v, hv, hvl, hvw⟩ := pop_some hp
      have hvn : v < c.kw.n := by omega
      have C := hid (spop h1.out)
      rw [hp, hv] at C
      have hpc := hid (pop_count hp (by omega))
      obtain ⟨x, hx⟩ : ∃ x, litT s1.tr v = x := ⟨_, rfl⟩
      obtain ⟨tb, htb⟩ : ∃ tb, s1.tr.getD v false = tb := ⟨_, rfl⟩
      have hxv : 2 * v + (if tb then 0 else 1) = x := by rw [← htb]; exact hx
      have hvl2 : (v : Int) < c.kw.n := by omega
      have hxm : (x : Int) ≤ 9223372036854775807 := by split at hxv <;> omega
      cases hm : mayF c.kw.n s1.L (x : Nat)
      · have HD := hid ((decF_no (f := f') hp hv hx hm).symm.trans hd.out)
        have HM : Hid (mayF c.kw.n (upO s1 s1.A (Od.popW s1.A s1.W)).L (x : Nat) = false) := hid hm
        have HXV := hid hxv
        have HTB : Hid ((upO s1 s1.A (Od.popW s1.A s1.W)).tr.getD v false = tb) := hid htb
        have hcm := hid hf.out
        clear h1 hd hf hp hv hx hm hxv htb hvw
        go_wp2_with (first
          | (go_at_call 60; with_reducible (refine C.out.mono ?_); rintro e w5 ⟨rfl, n5⟩; have n6 := Nx.out n5.out; obtain ⟨m5, h5, k5⟩ := n6; have d10 := h5.out.c10; have dt := h5.out.tcell (v := v) hvn HTB.out)
          | (go_at_call 61; with_reducible (refine (make_is v x tb (by omega) HXV.out _).mono ?_); rintro e w6 ⟨rfl, b6⟩; have n7 := Nx.out (h5.out.xbelow b6); obtain ⟨m6, h6, k6⟩ := n7; have d0 := h6.out.c0)
          | (go_at_call 62; with_reducible (refine (sdecide h6.out (x : Int) hxm HM.out).mono ?_); rintro e w7 ⟨rfl, n8⟩; have n9 := Nx.out n8.out; obtain ⟨m7, h7, k7⟩ := n9))
        have NW7 := wait_of h7.out
        refine ⟨⟨f', _, m7, ?_, HD, h7, hid (((k1.out.trans k5.out).trans k6.out).trans k7.out)⟩, ?_⟩
        · have h1 := hpc.out
          have h2 := hcm.out
          show Hid ((Od.popW s1.A s1.W).count true + 1 ≤ f')
          exact hid (by unfold cntOf at h2; omega)
        · rw [NW7, NW.out]
          show (Od.popW s1.A s1.W).count true < s1.W.count true
          have := hpc.out
          omega
      · have HD := hid ((decF_yes (f := f') hp hv hx hm).symm.trans hd.out)
        have HM : Hid (mayF c.kw.n (upO s1 s1.A (Od.popW s1.A s1.W)).L (x : Nat) = true) := hid hm
        have HXV := hid hxv
        have HTB : Hid ((upO s1 s1.A (Od.popW s1.A s1.W)).tr.getD v false = tb) := hid htb
        have hcm := hid hf.out
        clear h1 hd hf hp hv hx hm hxv htb hvw
        go_wp2_with (first
          | (go_at_call 60; with_reducible (refine C.out.mono ?_); rintro e w5 ⟨rfl, n5⟩; have n6 := Nx.out n5.out; obtain ⟨m5, h5, k5⟩ := n6; have d10 := h5.out.c10; have dt := h5.out.tcell (v := v) hvn HTB.out)
          | (go_at_call 61; with_reducible (refine (make_is v x tb (by omega) HXV.out _).mono ?_); rintro e w6 ⟨rfl, b6⟩; have n7 := Nx.out (h5.out.xbelow b6); obtain ⟨m6, h6, k6⟩ := n7; have d0 := h6.out.c0)
          | (go_at_call 62; with_reducible (refine (sdecide h6.out (x : Int) hxm HM.out).mono ?_); rintro e w7 ⟨rfl, n8⟩; have n9 := Nx.out n8.out; obtain ⟨m7, h7, k7⟩ := n9))
        go_ret
        exact ⟨true, rfl, ⟨_, HD.out.symm, m7, h7.out, ((k1.out.trans k5.out).trans k6.out).trans k7.out⟩⟩
end
end Go.Proofs.YtimfjoinjfecjaaGreat

namespace Go.Proofs.YtimfjoinjfecjaaGreat
open Go.RowKit
set_option linter.unusedVariables false

def glueS (L : List E) (q : (Nat → Nat) × Nat) (x : Int) : (Nat → Nat) × Nat :=
  if 0 < levelF L (vl x : Nat) ∧ q.1 (levelF L (vl x : Nat) - 1).toNat ≠ 1 then (upN q.1 (levelF L (vl x : Nat) - 1).toNat 1, q.2 + 1) else q

def glueF (L : List E) (xs : List Int) : (Nat → Nat) × Nat := xs.foldl (glueS L) (fun _ => 0, 0)

theorem glue_snoc {L : List E} {xs : List Int} {q : Nat} {x : Int} (h : xs[q]? = some x) : glueF L (xs.take (q + 1)) = glueS L (glueF L (xs.take q)) x := by
  rw [take_snoc h]; unfold glueF; rw [List.foldl_append]; rfl

/-- Marks of one's own. -/
structure Gl (w : World) (MB : Nat) (mk : Nat → Nat) (pb : Option Nat) (cs : Array Value) (wr : World) : Prop where
  blk : wr.heap[MB]? = some (.cells cs 122 (0, 0))
  ptr : cs[0]? = some (ptrO pb)
  pg : Pg wr pb mk
  pl : ∀ b, pb = some b → MB < b
  be : Below w.heap.size w wr
  lo : w.heap.size ≤ MB

theorem Gl.below {w : World} {MB : Nat} {mk : Nat → Nat} {pb : Option Nat} {cs : Array Value} {wr w' : World} (h : Gl w MB mk pb cs wr) (b : Below wr.heap.size wr w') : Gl w MB mk pb cs w' := by
  refine ⟨by rw [b.block _ (blk_lt h.blk)]; exact h.blk, h.ptr, h.pg.keep (fun q e => ?_), h.pl, Below.next h.be b, h.lo⟩
  have := h.pg
  rw [e] at this
  obtain ⟨pc, hp, _⟩ := this
  exact b.block _ (blk_lt hp)

theorem Gl.set {w : World} {MB : Nat} {mk : Nat → Nat} {pb pb' : Option Nat} {cs cs' : Array Value} {wr w' : World} {i m : Nat} (h : Gl w MB mk pb cs wr) (e : MarkEnd wr MB 0 122 cs pb mk i m pb' cs' w') : Gl w MB (upN mk i m) pb' cs' w' := by
  refine ⟨e.blk, e.ptr, e.pg, fun b hb => ?_, ?_, h.lo⟩
  · rcases e.nw with q | q
    · exact h.pl b (by rw [← q]; exact hb)
    · rw [q] at hb; cases hb; exact blk_lt h.blk
  · refine h.be.trans ⟨e.os, e.tape, e.output, e.size, fun j hj => e.block j ?_ ?_ (fun c => ?_)⟩
    · have := h.be.size; omega
    · have := h.lo; omega
    · have := h.pl j c; have := h.lo; omega

section
variable {k : K} {w : World} {L : List E} {lev : Nat} {p : V}

theorem z69_at : Tryz.zeroCells122[0]? = some (.pointer none) := by kernel_rfl

theorem levelF_le (t : Trl k w L lev p) (v : Int) : -1 ≤ levelF L v ∧ levelF L v ≤ lev := by
  obtain ⟨F, S, s, g, e⟩ := t
  unfold levelF
  cases ha : atF L v with
  | none => simp only; omega
  | some e' =>
    have := g.lv e' (at_some ha).1
    simp only
    omega

theorem glue_count (L : List E) (xs : List Int) : (glueF L xs).2 ≤ xs.length := by
  unfold glueF
  have : ∀ (ys : List Int) (q : (Nat → Nat) × Nat), (ys.foldl (glueS L) q).2 ≤ q.2 + ys.length := by
    intro ys
    induction ys with
    | nil => intro q; simp
    | cons y ys ih =>
      intro q
      have h1 := ih (glueS L q y)
      have h2 : (glueS L q y).2 ≤ q.2 + 1 := by unfold glueS; split <;> simp
      simp only [List.foldl_cons, List.length_cons]
      omega
  have := this xs (fun _ => 0, 0)
  simpa using this

set_option maxHeartbeats 2000000 in
theorem glue_is (t : Trl k w L lev p) (hn : k.n ≤ 4096) {ao : Option Addr} {m cap : Nat} {xs : List Int} (row : U.Row w ao m cap xs) (hx : ∀ x ∈ xs, 0 ≤ x) (hm : m ≤ 100000) :
    Calls Tryz.prog 56 #[.pointer (some ⟨k.OB, 0, none⟩), .slice ao m cap] w fun e w' => e = .returned (.int .i64 ((glueF L xs).2 : Nat)) ∧ Below w.heap.size w w' := by
  have HT := hid t
  have HR := hid row
  have HX := hid hx
  have hlen := row.1
  have hlev : lev ≤ 4096 := by have := t.len; omega
  have HG : Hid (Gl w w.heap.size (glueF L (xs.take 0)).1 none Tryz.zeroCells122 (w.alloc (.cells Tryz.zeroCells122 122))) := hid ⟨new_same w _, z69_at, fun i _ => rfl, fun b e => (by cases e), by go_grown, Nat.le_refl _⟩
  have H1 : Hid (((1 : Nat) : Int) = 1) := hid rfl
  clear t row hx
  go_enter Tryz.func56, Tryz.ntmps56
  go_wp2
  go_loopw [6, 8, 9, 12] (fun c _ _ i wr => ∃ (q : Nat) (n0 : Nat), q ≤ m ∧ c = .int .i64 n0 ∧ i = .int .i64 q ∧ Hid (n0 = (glueF L (xs.take q)).2) ∧ ∃ pb cs, Hid (Gl w w.heap.size (glueF L (xs.take q)).1 pb cs wr)) (fun _ _ _ i _ => m - (intOf i).toNat)
  case atStart => exact ⟨0, 0, Nat.zero_le _, rfl, rfl, hid rfl, none, _, HG⟩
  case round =>
    obtain ⟨q, n0, hq, rfl, rfl, hc0, pb, cs, hg⟩ := hrel
    by_cases hlt : q < m
    · have hlt' : (q : Int) < m := by omega
      obtain ⟨b, off, y, rfl, hc, hy, y0, y1⟩ := (HR.out.keep hg.out.be).at hlt
      have hy0 := HX.out y (List.mem_of_getElem? hy.out)
      obtain ⟨u, rfl⟩ := Int.eq_ofNat_of_zero_le hy0
      have hvu : vl (u : Int) = u / 2 := by unfold vl; simp
      obtain ⟨ll, hll⟩ : ∃ ll, levelF L ((u / 2 : Nat) : Int) = ll := ⟨_, rfl⟩
      have hle := levelF_le HT.out ((u / 2 : Nat) : Int)
      rw [hll] at hle
      have HLL := hid hll
      have HU : Hid (u / 2 = u / 2) := hid rfl
      obtain ⟨vv, hvv⟩ : ∃ vv, u / 2 = vv := ⟨_, rfl⟩
      have HV := hid hvv
      rw [hvv] at hll
      have HL2 := hid hll
      have HS := hid (glue_snoc (L := L) hy.out)
      have hn0 : n0 ≤ 100000 := by have h1 := glue_count L (xs.take q); have h2 := hc0.out; rw [List.length_take] at h1; omega
      clear hll hvv
      by_cases hpos : 0 < ll
      · obtain ⟨i, hi⟩ := Int.eq_ofNat_of_zero_le (show 0 ≤ ll - 1 by omega)
        have hi4 : i < 4096 := by omega
        have hll1 : ll - 1 = (i : Int) := hi
        have hlli : ll = (i : Int) + 1 := by omega
        have HI : Hid ((ll - 1).toNat = i) := hid (by omega)
        obtain ⟨y2, hy2⟩ : ∃ y2, (glueF L (xs.take q)).1 i = y2 := ⟨_, rfl⟩
        have HY : Hid ((((glueF L (xs.take q)).1 i : Nat) : Int) = (y2 : Int)) := hid (by rw [hy2])
        by_cases hmk : y2 = 1
        · subst hmk
          have hmb : (((1 : Nat) : Int) != 1) = false := by simp
          have HE : Hid (glueS L (glueF L (xs.take q)) u = glueF L (xs.take q)) := hid (by
            unfold glueS
            rw [hvu, HLL.out, HI.out, hy2, if_neg (by simp)])
          clear hy2 hi hpos
          subst hlli
          have hpos' : (0 : Int) < (i : Int) + 1 := by omega
          go_wp2_with (first
            | (go_at_call 24; with_reducible (refine (var_nat u vv HV.out y1 _).mono ?_); rintro e w2 ⟨rfl, b2⟩; have G2 := hid (hg.out.below b2))
            | (go_at_call 88; with_reducible (refine (level_is (HT.out.below G2.out.be) _ HL2.out).mono ?_); rintro e w2 ⟨rfl, rfl⟩)
            | (go_at_call 90; with_reducible (refine (of_is ((cell_of G2.out.blk).trans G2.out.ptr) G2.out.pg i hi4 HY.out).mono ?_); rintro e w2 ⟨rfl, rfl⟩))
          go_roundw
          case rel => exact ⟨q + 1, n0, by omega, rfl, by go_num, hid (by rw [HS.out, HE.out]; exact hc0.out), pb, cs, hid (by rw [HS.out, HE.out]; exact G2.out)⟩
          case measure => simp only [intOf]; omega
        · have hmb : ((y2 : Int) != 1) = true := by simp; omega
          have HE : Hid (glueS L (glueF L (xs.take q)) u = (upN (glueF L (xs.take q)).1 i 1, (glueF L (xs.take q)).2 + 1)) := hid (by
            unfold glueS
            rw [hvu, HLL.out, HI.out, hy2, if_pos ⟨hpos, hmk⟩])
          clear hy2 hi hpos
          subst hlli
          have hpos' : (0 : Int) < (i : Int) + 1 := by omega
          have HPL : Hid (∀ b, pb = some b → b ≠ w.heap.size) := hid (fun b e => by have := hg.out.pl b e; omega)
          go_wp2_with (first
            | (go_at_call 24; with_reducible (refine (var_nat u vv HV.out y1 _).mono ?_); rintro e w2 ⟨rfl, b2⟩; have G2 := hid (hg.out.below b2))
            | (go_at_call 88; with_reducible (refine (level_is (HT.out.below G2.out.be) _ HL2.out).mono ?_); rintro e w2 ⟨rfl, rfl⟩)
            | (go_at_call 90; with_reducible (refine (of_is ((cell_of G2.out.blk).trans G2.out.ptr) G2.out.pg i hi4 HY.out).mono ?_); rintro e w2 ⟨rfl, rfl⟩)
            | (go_at_call 91; with_reducible (refine (set_is G2.out.blk G2.out.ptr G2.out.pg HPL.out i hi4 1 H1.out).mono ?_); rintro e w3 ⟨rfl, pb3, cs3, he3⟩; have G3 := hid (G2.out.set he3.out)))
          go_roundw
          case rel => exact ⟨q + 1, n0 + 1, by omega, by go_num, by go_num, hid (by rw [HS.out, HE.out, hc0.out]), pb3, cs3, hid (by rw [HS.out, HE.out]; exact G3.out)⟩
          case measure => simp only [intOf]; omega
      · have HE : Hid (glueS L (glueF L (xs.take q)) u = glueF L (xs.take q)) := hid (by
          unfold glueS
          rw [hvu, HLL.out, if_neg (fun c => hpos c.1)])
        go_wp2_with (first
          | (go_at_call 24; with_reducible (refine (var_nat u vv HV.out y1 _).mono ?_); rintro e w2 ⟨rfl, b2⟩; have G2 := hid (hg.out.below b2))
          | (go_at_call 88; with_reducible (refine (level_is (HT.out.below G2.out.be) _ HL2.out).mono ?_); rintro e w2 ⟨rfl, rfl⟩))
        go_roundw
        case rel => exact ⟨q + 1, n0, by omega, rfl, by go_num, hid (by rw [HS.out, HE.out]; exact hc0.out), pb, cs, hid (by rw [HS.out, HE.out]; exact G2.out)⟩
        case measure => simp only [intOf]; omega
    · obtain rfl : q = m := by omega
      have hlt' : ¬ (q : Int) < q := by omega
      have e1 : xs.take q = xs := List.take_of_length_le (by omega)
      have hc1 := hc0.out
      rw [e1] at hc1
      have HB := hid hg.out.be
      have HC1 := hid hc1
      clear hc1
      go_wp2
      go_ret
      exact ⟨by rw [← HC1.out]; rfl, HB.out⟩

end

end Go.Proofs.YtimfjoinjfecjaaGreat
