/-
  assign, follow: a literal holds for a clause.
-/
import Derived.Test.YtikdmgemhfmipaaGreatWLooks
namespace Go.Proofs.YtikdmgemhfmipaaGreat
open Go.RowKit Go.Maps
set_option linter.unusedVariables false

theorem value_zero {L : List E} {m n : Nat} (hn : m / 2 < n) (h : valueF L (m : Int) = 0) : mayF n L m = true := by
  have h2 : (m : Int) / 2 = ((m / 2 : Nat) : Int) := by omega
  unfold valueF at h
  rw [if_neg (by omega), h2] at h
  unfold mayF
  rw [h2]
  cases ha : atF L ((m / 2 : Nat) : Int) with
  | none => simp; omega
  | some e =>
    rw [ha] at h
    simp only at h
    split at h <;> omega

section
variable {k : K} {kw : WK} {w : World} {g : G} {L : List E} {lev : Nat} {p : V}

theorem wassign_is (j : J k kw w g L lev p) (m u : Nat) (hm : m / 2 = u) (hu : u < kw.n) (hf : valueF L (m : Int) = 0) (r : Int) :
    Calls Tryz.prog 93 #[.pointer (some ⟨kw.OB, 0, none⟩), .pointer (some ⟨k.OB, 0, none⟩), .int .i64 m, .int .i64 r] w fun e w' => e = .returned (.tuple #[]) ∧ ∃ p', Hid (J k kw w' (g.place u L.length) (L ++ [⟨m, lev, r⟩]) lev p') ∧ Hid (FT k kw.B p p' w w') := by
  have hn := j.s.l.hn
  have hnn := j.n
  have hmu : (m : Int) ≤ 9223372036854775807 := by omega
  have hmay : mayF k.n L m = true := value_zero (by omega) hf
  have hadd : addL k.n L m lev r = L ++ [⟨m, lev, r⟩] := by unfold addL; rw [hmay]; simp
  have hll := j.t.len
  have hL1 : (L.length : Int) + 1 ≤ 9223372036854775807 := by omega
  have HM := hid hm
  have HJ := hid j
  have H1 := hid hmay
  have H2 := hid hadd
  clear hm j hmay hadd hll hf
  go_enter Tryz.func93, Tryz.ntmps93
  go_wp2_with (first
    | (go_at_call 13; with_reducible (refine (assign_is HJ.out.t m r hmu H1.out H2.out).mono ?_); rintro e w1 ⟨p1, rfl, t1, f1⟩; have j1 := hid (HJ.out.fr f1.out t1.out))
    | (go_at_call 23; with_reducible (refine (lits_is j1.out.t).mono ?_); rintro e w1 ⟨ao, rfl, hr, rfl⟩)
    | (go_at_call 43; with_reducible (refine (put_is j1.out.s m u HM.out hu L.length).mono ?_); rintro e w2 ⟨rfl, h2⟩))
  go_end0
  exact ⟨rfl, p1, hid (j1.out.fw h2.out.2 h2.out.1 rfl rfl rfl rfl), hid ((FT.fr HJ.out.t HJ.out.b f1.out).trans (FT.fw h2.out.2))⟩

theorem follow_no (j : J k kw w g L lev p) {c : Nat} (hc : c < g.nx) (a : Int) (ha : a ≤ 9223372036854775807) (hv : valueF L a = -1) :
    Calls Tryz.prog 67 #[.pointer (some ⟨kw.OB, 0, none⟩), .pointer (some ⟨k.OB, 0, none⟩), .pointer (some ⟨g.cb c, 0, none⟩), .int .i64 a] w fun e w' => e = .returned (.bool false) ∧ Hid (Below w.heap.size w w') := by
  have HJ := hid j
  have HV := hid hv
  clear j hv
  go_enter Tryz.func67, Tryz.ntmps67
  go_wp2_with (go_at_call 28; with_reducible (refine (value_is HJ.out.t a ha HV.out).mono ?_); rintro e w1 ⟨rfl, b1⟩)
  go_ret
  exact ⟨rfl, b1⟩

theorem follow_held (j : J k kw w g L lev p) {c : Nat} (hc : c < g.nx) (a : Int) (ha : a ≤ 9223372036854775807) (hv : valueF L a = 1) :
    Calls Tryz.prog 67 #[.pointer (some ⟨kw.OB, 0, none⟩), .pointer (some ⟨k.OB, 0, none⟩), .pointer (some ⟨g.cb c, 0, none⟩), .int .i64 a] w fun e w' => e = .returned (.bool true) ∧ Hid (Below w.heap.size w w') := by
  have HJ := hid j
  have HV := hid hv
  clear j hv
  go_enter Tryz.func67, Tryz.ntmps67
  go_wp2_with (go_at_call 28; with_reducible (refine (value_is HJ.out.t a ha HV.out).mono ?_); rintro e w1 ⟨rfl, b1⟩)
  go_ret
  exact ⟨rfl, b1⟩

theorem follow_new (j : J k kw w g L lev p) {c : Nat} (hc : c < g.nx) (hg : g.gn c = false) (m u : Nat) (hm : m / 2 = u) (hu : u < kw.n) (hv : valueF L (m : Int) = 0) :
    Calls Tryz.prog 67 #[.pointer (some ⟨kw.OB, 0, none⟩), .pointer (some ⟨k.OB, 0, none⟩), .pointer (some ⟨g.cb c, 0, none⟩), .int .i64 m] w fun e w' => e = .returned (.bool true) ∧ ∃ p', Hid (J k kw w' (g.place u L.length) (L ++ [⟨m, lev, c⟩]) lev p') ∧ Hid (FT k kw.B p p' w w') := by
  have hn := j.s.l.hn
  have hmu : (m : Int) ≤ 9223372036854775807 := by omega
  have HJ := hid j
  have HV := hid hv
  have HM := hid hm
  clear j hv hm
  go_enter Tryz.func67, Tryz.ntmps67
  go_wp2_with (first
    | (go_at_call 28; with_reducible (refine (value_is HJ.out.t m hmu HV.out).mono ?_); rintro e w1 ⟨rfl, b1⟩; have j1 := hid (HJ.out.below b1.out); have k0 := (j1.out.s.l.ks hc hg).1)
    | (go_at_call 93; with_reducible (refine (wassign_is j1.out m u HM.out hu HV.out c).mono ?_); rintro e w2 ⟨rfl, p2, j2, f2⟩))
  go_ret
  exact ⟨rfl, p2, j2, hid ((FT.below b1.out).trans f2.out)⟩
end

end Go.Proofs.YtikdmgemhfmipaaGreat
