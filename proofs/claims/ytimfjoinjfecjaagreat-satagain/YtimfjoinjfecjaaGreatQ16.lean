/-
  Literals that are met, one by one; a literal that is replaced.
  All literals of a clause are met; a literal is replaced.
  The document's Step; few clauses.
-/
import Derived.Test.YtimfjoinjfecjaaGreatQ15
import Derived.Test.YtimfjoinjfecjaaGreatQ07

namespace Go.Proofs.YtimfjoinjfecjaaGreat
open Go.RowKit
set_option linter.unusedVariables false

section
variable {k : SK} {w0 w w1 w' : World} {kt : K} {L : List E} {lev : Nat} {p : V} {cls : List (List Int)} {s s' : PS} {v v' : SV} {n : Nat}

theorem addA_is (c : Cm k w0 kt L lev p cls) (h : Rn k w0 kt.n w s v) (x : Int) (u : Nat) (hu : u < kt.n) (hx : 0 ≤ x ∧ x < 2 * (kt.n : Int)) (h0 : s.mrk u = 0) (hl : ∃ ll : Nat, levelF L u = ll) (hl0 : lev ≠ 0) (hop : -1000000 ≤ s.op) :
    Calls Tryz.prog 142 #[.pointer (some ⟨k.SB, 0, none⟩), .int .i64 x, .int .i64 u] w fun e w' => e = .returned (.tuple #[]) ∧ ∃ v', Hid (Rn k w0 kt.n w' (addP L lev s x u) v') ∧ Hid (SF k v v' w w') := by
  obtain ⟨ll, hl⟩ := hl
  by_cases h1 : ll = 0
  · subst h1
    refine (add_zero c h x u hl).mono ?_
    rintro e w' ⟨rfl, rfl⟩
    have : addP L lev s x u = s := by unfold addP; rw [if_pos (by simpa using hl)]
    rw [this]
    exact ⟨rfl, v, h, SF.refl _ _ _⟩
  · by_cases h2 : ll = lev
    · subst h2
      refine (add_lev c h x u hu hx h0 hl hl0 hop).mono ?_
      rintro e w' ⟨rfl, v', a, b⟩
      exact ⟨rfl, v', a, b⟩
    · refine (add_oth c h x u hu hx h0 ll hl h1 h2).mono ?_
      rintro e w' ⟨rfl, v', a, b⟩
      exact ⟨rfl, v', a, b⟩

def MeetE (k : SK) (w0 : World) (n : Nat) (w : World) (q : Bool × PS) (v : SV) (e : Ending) (w' : World) : Prop := e = .returned (.bool q.1) ∧ ∃ v', Rn k w0 n w' q.2 v' ∧ SF k v v' w w'

theorem meet_out (c : Cm k w0 kt L lev p cls) (h : Rn k w0 kt.n w s v) (x y : Int) (hx : x ≤ 9223372036854775807) (hv : valueF L x = y) (hy : y ≠ -1) :
    Calls Tryz.prog 119 #[.pointer (some ⟨k.SB, 0, none⟩), .int .i64 x] w fun e w' => e = .returned (.bool false) ∧ Below w.heap.size w w' := by
  have HT := hid (c.trl h)
  obtain ⟨c0, _⟩ := c.cell h
  have HV := hid hv
  have hyb : (y != -1) = true := by simpa using hy
  clear h c hv hy
  go_enter Tryz.func119, Tryz.ntmps119
  go_wp2_with (go_at_call 138; with_reducible (refine (value_is HT.out x hx HV.out).mono ?_); rintro e w1 ⟨rfl, b1⟩)
  go_ret
  exact ⟨rfl, b1.out⟩

theorem Rn.pgc (h : Rn k w0 n w s v) : w.cell? ⟨k.SB, 3, none⟩ = some (ptrO v.pb) := h.r.c.2.2.2.1

theorem meet_mk (c : Cm k w0 kt L lev p cls) (h : Rn k w0 kt.n w s v) (m u : Nat) (hm : m / 2 = u) (hx : (m : Int) ≤ 9223372036854775807) (hv : valueF L m = -1) (hu : u < kt.n) (y : Nat) (hy : s.mrk u = y) (b : Bool) (hb : (y = 1 ∧ b = true) ∨ (y = 2 ∧ b = false)) :
    Calls Tryz.prog 119 #[.pointer (some ⟨k.SB, 0, none⟩), .int .i64 m] w fun e w' => e = .returned (.bool b) ∧ Below w.heap.size w w' := by
  have HT := hid (c.trl h)
  obtain ⟨c0, _⟩ := c.cell h
  have HV := hid hv
  have HM := hid hm
  have HR := hid h
  have hu4 : u < 4096 := by have := c.hn; omega
  have HY : Hid ((s.mrk u : Int) = (y : Int)) := hid (by rw [hy])
  clear h c hv hm hy
  rcases hb with ⟨rfl, rfl⟩ | ⟨rfl, rfl⟩
  · go_enter Tryz.func119, Tryz.ntmps119
    go_wp2_with (first
      | (go_at_call 138; with_reducible (refine (value_is HT.out _ hx HV.out).mono ?_); rintro e w1 ⟨rfl, b1⟩)
      | (go_at_call 24; with_reducible (refine (var_nat _ _ HM.out hx _).mono ?_); rintro e w2 ⟨rfl, b2⟩; have R2 := hid ((HR.out.below b1.out).below b2))
      | (go_at_call 90; with_reducible (refine (of_is R2.out.pgc R2.out.r.pg _ hu4 HY.out).mono ?_); rintro e w3 ⟨rfl, rfl⟩))
    go_ret
    exact ⟨rfl, Below.next b1.out b2⟩
  · go_enter Tryz.func119, Tryz.ntmps119
    go_wp2_with (first
      | (go_at_call 138; with_reducible (refine (value_is HT.out _ hx HV.out).mono ?_); rintro e w1 ⟨rfl, b1⟩)
      | (go_at_call 24; with_reducible (refine (var_nat _ _ HM.out hx _).mono ?_); rintro e w2 ⟨rfl, b2⟩; have R2 := hid ((HR.out.below b1.out).below b2))
      | (go_at_call 90; with_reducible (refine (of_is R2.out.pgc R2.out.r.pg _ hu4 HY.out).mono ?_); rintro e w3 ⟨rfl, rfl⟩))
    go_ret
    exact ⟨rfl, Below.next b1.out b2⟩

theorem meet_add (c : Cm k w0 kt L lev p cls) (h : Rn k w0 kt.n w s v) (m u : Nat) (hm : m / 2 = u) (hx : (m : Int) ≤ 9223372036854775807) (hv : valueF L m = -1) (hu : u < kt.n) (hy : s.mrk u = 0) (hl : ∃ ll : Nat, levelF L u = ll) (hl0 : lev ≠ 0) (hop : -1000000 ≤ s.op) :
    Calls Tryz.prog 119 #[.pointer (some ⟨k.SB, 0, none⟩), .int .i64 m] w fun e w' => e = .returned (.bool true) ∧ AddEnd k w0 kt.n w (addP L lev s m u) v w' := by
  have HT := hid (c.trl h)
  obtain ⟨c0, _⟩ := c.cell h
  have HV := hid hv
  have HM := hid hm
  have HR := hid h
  have HC := hid c
  have HL := hid hl
  have hu4 : u < 4096 := by have := c.hn; omega
  have HY : Hid ((s.mrk u : Int) = 0) := hid (by rw [hy]; rfl)
  have HY0 := hid hy
  have HXB : Hid (0 ≤ (m : Int) ∧ (m : Int) < 2 * (kt.n : Int)) := hid (by omega)
  clear h c hv hm hy hl
  go_enter Tryz.func119, Tryz.ntmps119
  go_wp2_with (first
    | (go_at_call 138; with_reducible (refine (value_is HT.out _ hx HV.out).mono ?_); rintro e w1 ⟨rfl, b1⟩)
    | (go_at_call 24; with_reducible (refine (var_nat _ _ HM.out hx _).mono ?_); rintro e w2 ⟨rfl, b2⟩; have R2 := hid ((HR.out.below b1.out).below b2))
    | (go_at_call 90; with_reducible (refine (of_is R2.out.pgc R2.out.r.pg _ hu4 HY.out).mono ?_); rintro e w3 ⟨rfl, rfl⟩)
    | (go_at_call 142; with_reducible (refine (addA_is HC.out R2.out _ _ hu HXB.out HY0.out HL.out hl0 hop).mono ?_); rintro e w4 ⟨rfl, v4, r4, f4⟩))
  go_ret
  exact ⟨rfl, v4, r4.out, (SF.below (Below.next b1.out b2)).trans f4.out⟩

theorem level_ex {L : List E} {x : Int} (h : valueF L x = -1) : ∃ ll : Nat, levelF L (vl x : Nat) = ll := by
  unfold valueF at h
  by_cases h0 : x < 0
  · rw [if_pos h0] at h; omega
  · rw [if_neg h0] at h
    have hv : ((vl x : Nat) : Int) = x / 2 := by unfold vl; omega
    unfold levelF
    rw [hv]
    cases ha : atF L (x / 2) with
    | none => rw [ha] at h; simp at h
    | some e => exact ⟨e.g, rfl⟩

theorem meetA_is (c : Cm k w0 kt L lev p cls) (h : Rn k w0 kt.n w s v) (x : Int) (hx : x ≤ 9223372036854775807) (hl0 : lev ≠ 0) (hop : -1000000 ≤ s.op) :
    Calls Tryz.prog 119 #[.pointer (some ⟨k.SB, 0, none⟩), .int .i64 x] w fun e w' => MeetE k w0 kt.n w (meetP L lev s x) v e w' := by
  by_cases h1 : valueF L x = -1
  · obtain ⟨_, h0, _⟩ := val_neg (L := L) (x := x) (by omega)
    obtain ⟨m, rfl⟩ := Int.eq_ofNat_of_zero_le h0
    have hu : vl (m : Int) < kt.n := vlA_lt (c.t.lits_lt) h1
    have hvl : m / 2 = vl (m : Int) := by unfold vl; omega
    by_cases h3 : s.mrk (vl (m : Int)) = 1
    · have e1 : meetP L lev s m = (true, s) := by unfold meetP; rw [if_pos h1, if_pos h3]
      rw [e1]
      refine (meet_mk c h m _ hvl hx h1 hu 1 h3 true (.inl ⟨rfl, rfl⟩)).mono fun e w' q => ?_
      exact ⟨q.1, v, h.below q.2, SF.below q.2⟩
    · by_cases h4 : s.mrk (vl (m : Int)) = 2
      · have e1 : meetP L lev s m = (false, s) := by unfold meetP; rw [if_pos h1, if_neg h3, if_pos h4]
        rw [e1]
        refine (meet_mk c h m _ hvl hx h1 hu 2 h4 false (.inr ⟨rfl, rfl⟩)).mono fun e w' q => ?_
        exact ⟨q.1, v, h.below q.2, SF.below q.2⟩
      · have e1 : meetP L lev s m = (true, addP L lev s m (vl (m : Int))) := by unfold meetP; rw [if_pos h1, if_neg h3, if_neg h4]
        have h5 := h.m2 (vl (m : Int))
        rw [e1]
        refine (meet_add c h m _ hvl hx h1 hu (by omega) (level_ex h1) hl0 hop).mono fun e w' q => ?_
        exact ⟨q.1, q.2⟩
  · have e1 : meetP L lev s x = (false, s) := by unfold meetP; rw [if_neg h1]
    rw [e1]
    refine (meet_out c h x _ hx rfl h1).mono fun e w' q => ?_
    exact ⟨q.1, v, h.below q.2, SF.below q.2⟩

/-- For callers. -/
theorem meet_at (c : Cm k w0 kt L lev p cls) (h : Rn k w0 kt.n w s v) (x : Int) (hx : x ≤ 9223372036854775807) (hl0 : lev ≠ 0) (hop : -1000000 ≤ s.op) :
    Calls Tryz.prog 119 #[.pointer (some ⟨k.SB, 0, none⟩), .int .i64 x] w fun e w' => ∃ b s' v', e = .returned (.bool b) ∧ Hid (meetP L lev s x = (b, s')) ∧ Hid (Rn k w0 kt.n w' s' v') ∧ Hid (SF k v v' w w') ∧ Hid (s.op ≤ s'.op) := by
  refine (meetA_is c h x hx hl0 hop).mono fun e w' q => ?_
  obtain ⟨q1, v', q2, q3⟩ := q
  exact ⟨_, _, v', q1, rfl, q2, q3, (h.wf.meet (lev := lev) h.m2 (fun hv => vlA_lt c.t.lits_lt hv)).2.1⟩

theorem has_is (c : Cm k w0 kt L lev p cls) (h : Rn k w0 kt.n w s v) (x : Int) (b : Bool) (hb : decide (0 ≤ x ∧ x < cls.length) = b) :
    Calls Tryz.prog 80 #[.pointer (some ⟨k.SB, 0, none⟩), .int .i64 x] w fun e w' => e = .returned (.bool b) ∧ w' = w := by
  obtain ⟨la, ln, cap, e, gr⟩ := c.gr
  have c1 := h.r.c.2.1
  rw [e, ← gr.1] at c1
  clear h c gr e
  by_cases h0 : 0 ≤ x
  · by_cases h1 : x < cls.length
    · have : b = true := by rw [← hb]; simp; omega
      subst this
      clear hb
      go_enter Tryz.func80, Tryz.ntmps80
      go_wp2
      go_ret
      exact ⟨rfl, rfl⟩
    · have : b = false := by rw [← hb]; simp; omega
      subst this
      clear hb
      go_enter Tryz.func80, Tryz.ntmps80
      go_wp2
      go_ret
      exact ⟨rfl, rfl⟩
  · have : b = false := by rw [← hb]; simp; omega
    subst this
    clear hb
    go_enter Tryz.func80, Tryz.ntmps80
    go_wp2
    go_ret
    exact ⟨rfl, rfl⟩
end

end Go.Proofs.YtimfjoinjfecjaaGreat

namespace Go.Proofs.YtimfjoinjfecjaaGreat
open Go.RowKit
set_option linter.unusedVariables false

section
variable {k : SK} {w0 w w1 w' : World} {kt : K} {L : List E} {lev : Nat} {p : V} {cls : List (List Int)} {s s' : PS} {v v' : SV} {n : Nat}

theorem take_snoc {c : List Int} {q : Nat} {x : Int} (h : c[q]? = some x) : c.take (q + 1) = c.take q ++ [x] := by
  rw [List.take_add_one, h]; rfl

theorem meets_step {c : List Int} {q : Nat} {x : Int} {s1 s2 : PS} {b : Bool} (h : meetsP L lev s (c.take q) = (true, s1)) (hx : c[q]? = some x) (hm : meetP L lev s1 x = (b, s2)) : meetsP L lev s (c.take (q + 1)) = (b, s2) := by
  rw [take_snoc hx, meets_snoc (by rw [h]), h]; exact hm

theorem meets_stop {c : List Int} {q : Nat} {s2 : PS} (h : meetsP L lev s (c.take q) = (false, s2)) : meetsP L lev s c = (false, s2) := by
  have := meets_app_no (c.take q) (c.drop q) s (by rw [h])
  rw [List.take_append_drop] at this
  rw [this]; exact h

/-- What is so while a clause is gone over. -/
def Going (k : SK) (w0 : World) (n : Nat) (L : List E) (lev : Nat) (w : World) (s : PS) (v : SV) (c : List Int) (q : Nat) (wr : World) : Prop :=
  ∃ s1 v1, meetsP L lev s (c.take q) = (true, s1) ∧ Rn k w0 n wr s1 v1 ∧ SF k v v1 w wr ∧ s.op ≤ s1.op

theorem Going.next {c : List Int} {q : Nat} {x : Int} {wr w3 : World} {s1 s2 : PS} {v1 v2 : SV} (h1 : meetsP L lev s (c.take q) = (true, s1)) (f1 : SF k v v1 w wr) (o1 : s.op ≤ s1.op) (hx : c[q]? = some x) (hm : meetP L lev s1 x = (true, s2)) (r2 : Rn k w0 n w3 s2 v2) (f2 : SF k v1 v2 wr w3) (o2 : s1.op ≤ s2.op) : Going k w0 n L lev w s v c (q + 1) w3 :=
  ⟨s2, v2, meets_step h1 hx hm, r2, f1.trans f2, Int.le_trans o1 o2⟩

def MeetsE (k : SK) (w0 : World) (n : Nat) (w : World) (q : Bool × PS) (v : SV) (e : Ending) (w' : World) : Prop := e = .returned (.bool q.1) ∧ ∃ v', Rn k w0 n w' q.2 v' ∧ SF k v v' w w'

set_option maxHeartbeats 2000000 in
theorem meetAll_is (c : Cm k w0 kt L lev p cls) (h : Rn k w0 kt.n w s v) {ao : Option Addr} {m cap : Nat} {cl : List Int} (row : U.Row w0 ao m cap cl) (hl0 : lev ≠ 0) (hop : -1000000 ≤ s.op) :
    Calls Tryz.prog 81 #[.pointer (some ⟨k.SB, 0, none⟩), .slice ao m cap] w fun e w' => MeetsE k w0 kt.n w (meetsP L lev s cl) v e w' := by
  have HC := hid c
  have HR := hid row
  have hmx := row.max
  have hlen := row.1
  have HG : Hid (Going k w0 kt.n L lev w s v cl 0 w) := hid ⟨s, v, rfl, h, SF.refl _ _ _, Int.le_refl _⟩
  clear c row h
  go_enter Tryz.func81, Tryz.ntmps81
  go_wp2
  go_loopw [6, 9] (fun _ i wr => ∃ q : Nat, q ≤ m ∧ i = .int .i64 q ∧ Hid (Going k w0 kt.n L lev w s v cl q wr)) (fun _ i _ => m - (intOf i).toNat)
  case atStart => exact ⟨0, Nat.zero_le _, rfl, HG⟩
  case round =>
    obtain ⟨q, hq, rfl, hg⟩ := hrel
    obtain ⟨s1, v1, g1, r1, f1, o1⟩ := hg.out
    have G1 := hid g1
    have R1 := hid r1
    have F1 := hid f1
    have O1 := hid o1
    by_cases hlt : q < m
    · have hlt' : (q : Int) < m := by omega
      obtain ⟨b, off, y, rfl, hc, hy, y0, y1⟩ := (HR.out.keep r1.b).at hlt
      have HY := hid hy
      have hop1 : -1000000 ≤ s1.op := by omega
      clear g1 r1 f1 o1 hy hg
      go_wp2_with (go_at_call 119; with_reducible (refine (meet_at HC.out R1.out y y1 hl0 hop1).mono ?_); rintro e w3 ⟨b3, s3, v3, rfl, m3, r3, f3, o3⟩; cases b3)
      · go_ret
        have := meets_stop (meets_step G1.out HY.out.out m3.out)
        rw [this]
        exact ⟨rfl, v3, r3.out, F1.out.trans f3.out⟩
      · go_roundw
        case rel => exact ⟨q + 1, by omega, by go_num, hid (Going.next G1.out F1.out O1.out HY.out.out m3.out r3.out f3.out o3.out)⟩
        case measure => simp only [intOf]; omega
    · obtain rfl : q = m := by omega
      have hlt' : ¬ (q : Int) < q := by omega
      clear g1 r1 f1 o1 hg
      go_wp2
      go_ret
      have e1 : cl.take q = cl := List.take_of_length_le (by omega)
      have := G1.out
      rw [e1] at this
      rw [this]
      exact ⟨rfl, v1, R1.out, F1.out⟩
end

end Go.Proofs.YtimfjoinjfecjaaGreat

namespace Go.Proofs.YtimfjoinjfecjaaGreat.U
open Go.RowKit
set_option linter.unusedVariables false

/-- A clause follows at once. -/
def Stp (L : List (List Int)) (c : List Int) : Prop := Bad L (c.map notF)

def longF (xs : List Int) : Bool := decide (40 < xs.length)

def fewF (xss : List (List Int)) (most : Int) : Int := if most < xss.length then 0 else if xss.any longF = true then 0 else 1

theorem few_any (ao : Option Addr) (n cap : Nat) (xss : List (List Int)) (most : Int) (w : World) (h : Grid w ao n cap xss) :
    Calls Tryz.prog 7 #[.slice ao n cap, .int .i64 most] w fun e w' => e = .returned (.int .i64 (fewF xss most)) ∧ w' = w := by
  have HR : Hid (Grid w ao n cap xss) := h
  have hm := h.max
  have hl := h.1
  clear h
  by_cases hb : most < n
  · have HV : Hid (fewF xss most = 0) := by show _ = _; simp only [fewF]; rw [if_pos (by omega)]
    clear hl
    go_enter Tryz.func7, Tryz.ntmps7
    go_wp2
    go_ret
    exact ⟨by rw [HV.out]; rfl, rfl⟩
  · have HV : Hid (fewF xss most = if xss.any longF = true then 0 else 1) := by show _ = _; simp only [fewF]; rw [if_neg (by omega)]
    clear hl
    go_enter Tryz.func7, Tryz.ntmps7
    go_wp2
    go_loop [5] (fun i => ∃ k : Nat, k ≤ n ∧ i = .int .i64 k ∧ Hid ((xss.take k).any longF = false)) (fun i => n - (intOf i).toNat)
    case atStart => exact ⟨0, Nat.zero_le _, rfl, rfl⟩
    case round =>
      obtain ⟨k, hk, rfl, hno⟩ := hrel
      by_cases hlt : k < n
      · obtain ⟨b, off, a, m, c, ys, rfl, hc, hy, hr⟩ := HR.out.at hlt
        have hm2 := hr.out.max
        by_cases he : 40 < m
        · have HW : Hid (fewF xss most = 0) := by
            show _ = _; rw [HV.out, if_pos (gany_hit hy.out (by simp only [longF, decide_eq_true_eq]; rw [hr.out.1]; exact he))]
          have he' : (40 : Int) < m := by omega
          go_wp2
          go_ret
          exact ⟨by rw [HW.out]; rfl, rfl⟩
        · have HW : Hid ((xss.take (k + 1)).any longF = false) := gany_step hno.out hy.out (by simp only [longF, decide_eq_false_iff_not]; rw [hr.out.1]; exact he)
          have he' : ¬ (40 : Int) < m := by omega
          go_wp2
          go_round
          case rel => exact ⟨k + 1, by omega, by go_num, HW⟩
          case measure => simp [intOf]; omega
      · have HW : Hid (fewF xss most = 1) := by
          have := gany_end hno.out (by rw [HR.out.1]; omega)
          show _ = _; rw [HV.out, this]; rfl
        go_wp2
        go_ret
        exact ⟨by rw [HW.out]; rfl, rfl⟩

theorem few_len {xss : List (List Int)} {most : Nat} (h : ¬ fewF xss most = 0) : xss.length ≤ most := by
  by_cases hl : (most : Int) < xss.length
  · exact absurd (by simp only [fewF]; rw [if_pos hl]) h
  · omega

theorem few_short {xss : List (List Int)} {most : Int} (h : ¬ fewF xss most = 0) : ∀ c ∈ xss, c.length ≤ 40 := by
  intro c hc
  by_cases h1 : most < xss.length
  · exact absurd (by simp only [fewF]; rw [if_pos h1]) h
  · cases h2 : xss.any longF
    · have := List.any_eq_false.1 h2 c hc
      simp [longF] at this; omega
    · exact absurd (by simp only [fewF]; rw [if_neg h1, if_pos h2]) h


end Go.Proofs.YtimfjoinjfecjaaGreat.U
