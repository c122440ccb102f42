/-
  Literals that are met, one by one; a literal that is replaced.
-/
import Derived.Test.YtikdmgemhfmipaaGreatAF
namespace Go.Proofs.YtikdmgemhfmipaaGreat
open Go.RowKit
set_option linter.unusedVariables false

section
variable {k : SK} {w0 w w1 w' : World} {kt : K} {L : List E} {lev : Nat} {p : V} {cls : List (List Int)} {s s' : PS} {v v' : SV} {n : Nat}

theorem addA_is (c : Cm k w0 kt L lev p cls) (h : Rn k w0 kt.n w s v) (x : Int) (u : Nat) (hu : u < kt.n) (hx : 0 ≤ x ∧ x < 2 * (kt.n : Int)) (h0 : s.mrk u = 0) (hl : ∃ ll : Nat, levelF L u = ll) (hl0 : lev ≠ 0) (hop : -1000000 ≤ s.op) :
    Calls Tryz.prog 76 #[.pointer (some ⟨k.SB, 0, none⟩), .int .i64 x, .int .i64 u] w fun e w' => e = .returned (.tuple #[]) ∧ ∃ v', Hid (Rn k w0 kt.n w' (addP L lev s x u) v') ∧ Hid (SF k v v' w w') := by
  obtain ⟨ll, hl⟩ := hl
  by_cases h1 : ll = 0
  · subst h1
    refine (add_zero c h x u hl).mono ?_
    rintro e w' ⟨rfl, rfl⟩
    have : addP L lev s x u = s := by unfold addP; rw [if_pos (by simpa using hl)]
    rw [this]
    exact ⟨rfl, v, h, SF.refl _ _ _⟩
  · by_cases h2 : ll = lev
    · subst h2
      refine (add_lev c h x u hu hx h0 hl hl0 hop).mono ?_
      rintro e w' ⟨rfl, v', a, b⟩
      exact ⟨rfl, v', a, b⟩
    · refine (add_oth c h x u hu hx h0 ll hl h1 h2).mono ?_
      rintro e w' ⟨rfl, v', a, b⟩
      exact ⟨rfl, v', a, b⟩

def MeetE (k : SK) (w0 : World) (n : Nat) (w : World) (q : Bool × PS) (v : SV) (e : Ending) (w' : World) : Prop := e = .returned (.bool q.1) ∧ ∃ v', Rn k w0 n w' q.2 v' ∧ SF k v v' w w'

theorem meet_out (c : Cm k w0 kt L lev p cls) (h : Rn k w0 kt.n w s v) (x y : Int) (hx : x ≤ 9223372036854775807) (hv : valueF L x = y) (hy : y ≠ -1) :
    Calls Tryz.prog 52 #[.pointer (some ⟨k.SB, 0, none⟩), .int .i64 x] w fun e w' => e = .returned (.bool false) ∧ Below w.heap.size w w' := by
  have HT := hid (c.trl h)
  obtain ⟨c0, _⟩ := c.cell h
  have HV := hid hv
  have hyb : (y != -1) = true := by simpa using hy
  clear h c hv hy
  go_enter Tryz.func52, Tryz.ntmps52
  go_wp2_with (go_at_call 28; with_reducible (refine (value_is HT.out x hx HV.out).mono ?_); rintro e w1 ⟨rfl, b1⟩)
  go_ret
  exact ⟨rfl, b1.out⟩

theorem Rn.pgc (h : Rn k w0 n w s v) : w.cell? ⟨k.SB, 3, none⟩ = some (ptrO v.pb) := h.r.c.2.2.2.1

theorem meet_mk (c : Cm k w0 kt L lev p cls) (h : Rn k w0 kt.n w s v) (m u : Nat) (hm : m / 2 = u) (hx : (m : Int) ≤ 9223372036854775807) (hv : valueF L m = -1) (hu : u < kt.n) (y : Nat) (hy : s.mrk u = y) (b : Bool) (hb : (y = 1 ∧ b = true) ∨ (y = 2 ∧ b = false)) :
    Calls Tryz.prog 52 #[.pointer (some ⟨k.SB, 0, none⟩), .int .i64 m] w fun e w' => e = .returned (.bool b) ∧ Below w.heap.size w w' := by
  have HT := hid (c.trl h)
  obtain ⟨c0, _⟩ := c.cell h
  have HV := hid hv
  have HM := hid hm
  have HR := hid h
  have hu4 : u < 4096 := by have := c.hn; omega
  have HY : Hid ((s.mrk u : Int) = (y : Int)) := hid (by rw [hy])
  clear h c hv hm hy
  rcases hb with ⟨rfl, rfl⟩ | ⟨rfl, rfl⟩
  · go_enter Tryz.func52, Tryz.ntmps52
    go_wp2_with (first
      | (go_at_call 28; with_reducible (refine (value_is HT.out _ hx HV.out).mono ?_); rintro e w1 ⟨rfl, b1⟩)
      | (go_at_call 31; with_reducible (refine (var_nat _ _ HM.out hx _).mono ?_); rintro e w2 ⟨rfl, b2⟩; have R2 := hid ((HR.out.below b1.out).below b2))
      | (go_at_call 39; with_reducible (refine (of_is R2.out.pgc R2.out.r.pg _ hu4 HY.out).mono ?_); rintro e w3 ⟨rfl, rfl⟩))
    go_ret
    exact ⟨rfl, Below.next b1.out b2⟩
  · go_enter Tryz.func52, Tryz.ntmps52
    go_wp2_with (first
      | (go_at_call 28; with_reducible (refine (value_is HT.out _ hx HV.out).mono ?_); rintro e w1 ⟨rfl, b1⟩)
      | (go_at_call 31; with_reducible (refine (var_nat _ _ HM.out hx _).mono ?_); rintro e w2 ⟨rfl, b2⟩; have R2 := hid ((HR.out.below b1.out).below b2))
      | (go_at_call 39; with_reducible (refine (of_is R2.out.pgc R2.out.r.pg _ hu4 HY.out).mono ?_); rintro e w3 ⟨rfl, rfl⟩))
    go_ret
    exact ⟨rfl, Below.next b1.out b2⟩

theorem meet_add (c : Cm k w0 kt L lev p cls) (h : Rn k w0 kt.n w s v) (m u : Nat) (hm : m / 2 = u) (hx : (m : Int) ≤ 9223372036854775807) (hv : valueF L m = -1) (hu : u < kt.n) (hy : s.mrk u = 0) (hl : ∃ ll : Nat, levelF L u = ll) (hl0 : lev ≠ 0) (hop : -1000000 ≤ s.op) :
    Calls Tryz.prog 52 #[.pointer (some ⟨k.SB, 0, none⟩), .int .i64 m] w fun e w' => e = .returned (.bool true) ∧ AddEnd k w0 kt.n w (addP L lev s m u) v w' := by
  have HT := hid (c.trl h)
  obtain ⟨c0, _⟩ := c.cell h
  have HV := hid hv
  have HM := hid hm
  have HR := hid h
  have HC := hid c
  have HL := hid hl
  have hu4 : u < 4096 := by have := c.hn; omega
  have HY : Hid ((s.mrk u : Int) = 0) := hid (by rw [hy]; rfl)
  have HY0 := hid hy
  have HXB : Hid (0 ≤ (m : Int) ∧ (m : Int) < 2 * (kt.n : Int)) := hid (by omega)
  clear h c hv hm hy hl
  go_enter Tryz.func52, Tryz.ntmps52
  go_wp2_with (first
    | (go_at_call 28; with_reducible (refine (value_is HT.out _ hx HV.out).mono ?_); rintro e w1 ⟨rfl, b1⟩)
    | (go_at_call 31; with_reducible (refine (var_nat _ _ HM.out hx _).mono ?_); rintro e w2 ⟨rfl, b2⟩; have R2 := hid ((HR.out.below b1.out).below b2))
    | (go_at_call 39; with_reducible (refine (of_is R2.out.pgc R2.out.r.pg _ hu4 HY.out).mono ?_); rintro e w3 ⟨rfl, rfl⟩)
    | (go_at_call 76; with_reducible (refine (addA_is HC.out R2.out _ _ hu HXB.out HY0.out HL.out hl0 hop).mono ?_); rintro e w4 ⟨rfl, v4, r4, f4⟩))
  go_ret
  exact ⟨rfl, v4, r4.out, (SF.below (Below.next b1.out b2)).trans f4.out⟩

theorem level_ex {L : List E} {x : Int} (h : valueF L x = -1) : ∃ ll : Nat, levelF L (vl x : Nat) = ll := by
  unfold valueF at h
  by_cases h0 : x < 0
  · rw [if_pos h0] at h; omega
  · rw [if_neg h0] at h
    have hv : ((vl x : Nat) : Int) = x / 2 := by unfold vl; omega
    unfold levelF
    rw [hv]
    cases ha : atF L (x / 2) with
    | none => rw [ha] at h; simp at h
    | some e => exact ⟨e.g, rfl⟩

theorem meetA_is (c : Cm k w0 kt L lev p cls) (h : Rn k w0 kt.n w s v) (x : Int) (hx : x ≤ 9223372036854775807) (hl0 : lev ≠ 0) (hop : -1000000 ≤ s.op) :
    Calls Tryz.prog 52 #[.pointer (some ⟨k.SB, 0, none⟩), .int .i64 x] w fun e w' => MeetE k w0 kt.n w (meetP L lev s x) v e w' := by
  by_cases h1 : valueF L x = -1
  · obtain ⟨_, h0, _⟩ := val_neg (L := L) (x := x) (by omega)
    obtain ⟨m, rfl⟩ := Int.eq_ofNat_of_zero_le h0
    have hu : vl (m : Int) < kt.n := vlA_lt (c.t.lits_lt) h1
    have hvl : m / 2 = vl (m : Int) := by unfold vl; omega
    by_cases h3 : s.mrk (vl (m : Int)) = 1
    · have e1 : meetP L lev s m = (true, s) := by unfold meetP; rw [if_pos h1, if_pos h3]
      rw [e1]
      refine (meet_mk c h m _ hvl hx h1 hu 1 h3 true (.inl ⟨rfl, rfl⟩)).mono fun e w' q => ?_
      exact ⟨q.1, v, h.below q.2, SF.below q.2⟩
    · by_cases h4 : s.mrk (vl (m : Int)) = 2
      · have e1 : meetP L lev s m = (false, s) := by unfold meetP; rw [if_pos h1, if_neg h3, if_pos h4]
        rw [e1]
        refine (meet_mk c h m _ hvl hx h1 hu 2 h4 false (.inr ⟨rfl, rfl⟩)).mono fun e w' q => ?_
        exact ⟨q.1, v, h.below q.2, SF.below q.2⟩
      · have e1 : meetP L lev s m = (true, addP L lev s m (vl (m : Int))) := by unfold meetP; rw [if_pos h1, if_neg h3, if_neg h4]
        have h5 := h.m2 (vl (m : Int))
        rw [e1]
        refine (meet_add c h m _ hvl hx h1 hu (by omega) (level_ex h1) hl0 hop).mono fun e w' q => ?_
        exact ⟨q.1, q.2⟩
  · have e1 : meetP L lev s x = (false, s) := by unfold meetP; rw [if_neg h1]
    rw [e1]
    refine (meet_out c h x _ hx rfl h1).mono fun e w' q => ?_
    exact ⟨q.1, v, h.below q.2, SF.below q.2⟩

/-- For callers. -/
theorem meet_at (c : Cm k w0 kt L lev p cls) (h : Rn k w0 kt.n w s v) (x : Int) (hx : x ≤ 9223372036854775807) (hl0 : lev ≠ 0) (hop : -1000000 ≤ s.op) :
    Calls Tryz.prog 52 #[.pointer (some ⟨k.SB, 0, none⟩), .int .i64 x] w fun e w' => ∃ b s' v', e = .returned (.bool b) ∧ Hid (meetP L lev s x = (b, s')) ∧ Hid (Rn k w0 kt.n w' s' v') ∧ Hid (SF k v v' w w') ∧ Hid (s.op ≤ s'.op) := by
  refine (meetA_is c h x hx hl0 hop).mono fun e w' q => ?_
  obtain ⟨q1, v', q2, q3⟩ := q
  exact ⟨_, _, v', q1, rfl, q2, q3, (h.wf.meet (lev := lev) h.m2 (fun hv => vlA_lt c.t.lits_lt hv)).2.1⟩

theorem has_is (c : Cm k w0 kt L lev p cls) (h : Rn k w0 kt.n w s v) (x : Int) (b : Bool) (hb : decide (0 ≤ x ∧ x < cls.length) = b) :
    Calls Tryz.prog 32 #[.pointer (some ⟨k.SB, 0, none⟩), .int .i64 x] w fun e w' => e = .returned (.bool b) ∧ w' = w := by
  obtain ⟨la, ln, cap, e, gr⟩ := c.gr
  have c1 := h.r.c.2.1
  rw [e, ← gr.1] at c1
  clear h c gr e
  by_cases h0 : 0 ≤ x
  · by_cases h1 : x < cls.length
    · have : b = true := by rw [← hb]; simp; omega
      subst this
      clear hb
      go_enter Tryz.func32, Tryz.ntmps32
      go_wp2
      go_ret
      exact ⟨rfl, rfl⟩
    · have : b = false := by rw [← hb]; simp; omega
      subst this
      clear hb
      go_enter Tryz.func32, Tryz.ntmps32
      go_wp2
      go_ret
      exact ⟨rfl, rfl⟩
  · have : b = false := by rw [← hb]; simp; omega
    subst this
    clear hb
    go_enter Tryz.func32, Tryz.ntmps32
    go_wp2
    go_ret
    exact ⟨rfl, rfl⟩
end

end Go.Proofs.YtikdmgemhfmipaaGreat
