/-
  A watch beside its trail; the calls that only look: has, place, beside, stands, clause, Len, Clause; put.
-/
import Derived.Test.YtikdmgemhfmipaaGreatWState
namespace Go.Proofs.YtikdmgemhfmipaaGreat
open Go.RowKit Go.Maps
set_option linter.unusedVariables false

theorem law3 : Keyed Tryz.prog 3 := int_keyed Tryz.underlying3

theorem wf_of {x : Int} (h0 : -9223372036854775808 ≤ x) (h1 : x ≤ 9223372036854775807) : (Lit.int .i64 x).wf = true := by
  simp [Lit.wf, IntKind.min, IntKind.max, IntKind.signed, IntKind.bits]; omega

/-- A watch and its trail. -/
structure J (k : K) (kw : WK) (w : World) (g : G) (L : List E) (lev : Nat) (p : V) : Prop where
  t : Trl k w L lev p
  s : St kw w g
  n : k.n = kw.n
  b : kw.B ≤ k.B
  aw : ∀ i, i < g.nx → g.gn i = false → ∀ j, (g.lv i).ownBlock = some j → 0 < (g.lt i).length → ¬ Mine k p j

section
variable {k : K} {kw : WK} {w w' : World} {g : G} {L : List E} {lev : Nat} {p : V}

theorem J.below (j : J k kw w g L lev p) (b : Below w.heap.size w w') : J k kw w' g L lev p := ⟨j.t.below b, j.s.below b, j.n, j.b, j.aw⟩
theorem J.fw {g' : G} (j : J k kw w g L lev p) (f : FW kw.B w w') (s : St kw w' g') (e1 : g'.nx = g.nx) (e2 : g'.gn = g.gn) (e3 : g'.lv = g.lv) (e4 : g'.lt = g.lt) : J k kw w' g' L lev p :=
  ⟨j.t.fw f, s, j.n, j.b, by rw [e1, e2, e3, e4]; exact j.aw⟩

theorem St.fr {k : K} {p p' : V} (s : St kw w g) (t : Trl k w L lev p) (f : Fr k p p' w w') (aw : ∀ i, i < g.nx → g.gn i = false → ∀ j, (g.lv i).ownBlock = some j → 0 < (g.lt i).length → ¬ Mine k p j) : St kw w' g := by
  refine s.same (fun j T ht hT => f.block j ht.lt (fun m => ?_)) (fun j es clock e => f.block j (blk_lt e) (fun m => ?_)) (fun i j hi hg e h0 ht => f.block j ht.lt (aw i hi hg j e h0))
  · obtain ⟨T', h1, h2⟩ := t.mine_typ m
    exact h2 (h1.one ht ▸ hT)
  · obtain ⟨T', ⟨c, fr, h1⟩, _⟩ := t.mine_typ m
    rw [e] at h1; cases h1

theorem LitRow.lt {v : Value} {xs : List Int} (h : LitRow w v xs) {j : Nat} (e : v.ownBlock = some j) (h0 : 0 < xs.length) : Typ w j 3 := by
  obtain ⟨ao, n, c, rfl, h1, h2⟩ := h
  obtain ⟨b, off, rfl, ht⟩ := h2 (by have := h1.1; omega)
  simp [Value.ownBlock] at e; subst e; exact ht

theorem J.fr {L' : List E} {lev' : Nat} {p' : V} (j : J k kw w g L lev p) (f : Fr k p p' w w') (t : Trl k w' L' lev' p') : J k kw w' g L' lev' p' :=
  ⟨t, j.s.fr j.t f j.aw, j.n, j.b, fun i hi hg b e h0 m => j.aw i hi hg b e h0 (f.new b ((j.s.l.li i hi hg).lt e h0).lt m)⟩
end

section
variable {k : WK} {w : World} {g : G}

theorem has_yes (s : St k w g) (m u : Nat) (hm : m / 2 = u) (h : u < k.n) : Calls Tryz.prog 17 #[.pointer (some ⟨k.OB, 0, none⟩), .int .i64 m] w fun e w' => e = .returned (.bool true) ∧ Below w.heap.size w w' := by
  have hn := s.l.hn
  have hu : (m : Int) ≤ 9223372036854775807 := by omega
  have h' : (u : Int) < k.n := by omega
  have HM := hid hm
  have HS := hid s
  clear hm s
  go_enter Tryz.func17, Tryz.ntmps17
  go_wp2_with (go_at_call 31; with_reducible (refine (var_nat _ _ HM.out hu _).mono ?_); rintro e w1 ⟨rfl, b1⟩; have c3 := (HS.out.below b1).c3)
  go_ret
  exact ⟨rfl, b1⟩

theorem has_no (s : St k w g) (l : Int) (hu : l ≤ 9223372036854775807) (h : l < 0 ∨ ∃ m u : Nat, l = m ∧ m / 2 = u ∧ k.n ≤ u) : Calls Tryz.prog 17 #[.pointer (some ⟨k.OB, 0, none⟩), .int .i64 l] w fun e w' => e = .returned (.bool false) ∧ Below w.heap.size w w' := by
  have HS := hid s
  clear s
  rcases h with h | ⟨m, u, rfl, hm, h⟩
  · go_enter Tryz.func17, Tryz.ntmps17
    go_wp2_with (go_at_call 31; with_reducible (refine (var_neg _ h _).mono ?_); rintro e w1 ⟨rfl, b1⟩; have c3 := (HS.out.below b1).c3)
    go_ret
    exact ⟨rfl, b1⟩
  · have h' : ¬ (u : Int) < k.n := by omega
    have hd : decide (u < k.n) = false := by simp; omega
    have HM := hid hm
    clear hm
    go_enter Tryz.func17, Tryz.ntmps17
    go_wp2_with (go_at_call 31; with_reducible (refine (var_nat _ _ HM.out hu _).mono ?_); rintro e w1 ⟨rfl, b1⟩; have c3 := (HS.out.below b1).c3)
    go_ret
    exact ⟨rfl, b1⟩

theorem place_is (s : St k w g) (m u : Nat) (hm : m / 2 = u) (h : u < k.n) : Calls Tryz.prog 71 #[.pointer (some ⟨k.OB, 0, none⟩), .int .i64 m] w fun e w' => e = .returned (.int .i64 (g.pl u)) ∧ Hid (Below w.heap.size w w') := by
  have hn := s.l.hn
  have hu : (m : Int) ≤ 9223372036854775807 := by omega
  have h' : (u : Int) < k.n := by omega
  have HM := hid hm
  have HS := hid s
  have c3 := s.c3
  clear hm s
  go_enter Tryz.func71, Tryz.ntmps71
  go_wp2
  go_region_with (go_at_call 31; with_reducible (refine (var_nat _ _ HM.out hu _).mono ?_); rintro e w1 ⟨rfl, b1⟩; have s1 := hid (HS.out.drew.below b1); have c3' := s1.out.c3; have cp := s1.out.c.fp h)
  all_goals go_wp2
  all_goals go_ret
  all_goals exact ⟨rfl, Below.next (below_drew w) b1⟩

theorem put_is (s : St k w g) (m u : Nat) (hm : m / 2 = u) (h : u < k.n) (q : Nat) : Calls Tryz.prog 43 #[.pointer (some ⟨k.OB, 0, none⟩), .int .i64 m, .int .i64 q] w fun e w' => e = .returned (.tuple #[]) ∧ Hid (St k w' (g.place u q) ∧ FW k.B w w') := by
  have hn := s.l.hn
  have hu : (m : Int) ≤ 9223372036854775807 := by omega
  have h' : (u : Int) < k.n := by omega
  have HM := hid hm
  have HS := hid s
  clear hm s
  go_enter Tryz.func43, Tryz.ntmps43
  go_wp2_with (go_at_call 17; with_reducible (refine (has_yes HS.out m u HM.out h).mono ?_); rintro e w1 ⟨rfl, b1⟩; have s1 := hid (HS.out.below b1); have c3 := s1.out.c3)
  go_region_with (go_at_call 31; with_reducible (refine (var_nat _ _ HM.out hu _).mono ?_); rintro e w2 ⟨rfl, b2⟩; have b3 := hid (Below.next (Below.next b1 (below_drew w1)) b2); have s2 := hid (HS.out.below b3.out); have c3' := s2.out.c3; have cp := s2.out.c.fp h; have cf := s2.out.c.ff (u * 2))
  all_goals go_wp2
  all_goals go_end0
  all_goals exact ⟨rfl, s2.out.putp h q, (FW.below b3.out).trans (FW.grown (grown_set w2 ⟨k.FB, u * 2, none⟩ (.int .i64 (q : Int))) (fun j T e t => by cases e; obtain ⟨c, q1, _⟩ := s2.out.c.fb; rw [t.one ⟨_, _, q1⟩]; simp [Wt]) (fun j e => by cases e; exact s2.out.c.lo.2.2))⟩

/-- The other literal that a clause watches. -/
def besideF (g : G) (c : Nat) (x : Int) : Int := if g.a c = x then g.b c else g.a c

theorem beside_is (l : Lst k w g) {c : Nat} (hc : c < g.nx) (hg : g.gn c = false) (x y : Int) (hy : besideF g c x = y) : Calls Tryz.prog 70 #[.pointer (some ⟨g.cb c, 0, none⟩), .int .i64 x] w fun e w' => e = .returned (.int .i64 y) ∧ w' = w := by
  obtain ⟨c0, c1, c2, c3, c4⟩ := l.ks hc hg
  unfold besideF at hy
  by_cases e : g.a c = x
  · rw [if_pos e] at hy
    subst hy
    have e' : (g.a c == x) = true := by simpa using e
    clear e l
    go_enter Tryz.func70, Tryz.ntmps70
    go_wp2
    go_ret
    exact ⟨rfl, rfl⟩
  · rw [if_neg e] at hy
    subst hy
    have e' : (g.a c == x) = false := by simpa using e
    clear e l
    go_enter Tryz.func70, Tryz.ntmps70
    go_wp2
    go_ret
    exact ⟨rfl, rfl⟩

theorem look_nil (x : Int) (w : World) : (Instr.lookup 49 (.map none) (.int .i64 x) false).run Tryz.prog w = .ok (.pointer none) w := by kernel_rfl
theorem len_nil (ty : TypeId) (w : World) : (Builtin.len_ #[49] ty #[.map none]).run Tryz.prog w = .ok (.int .i64 0) w := by kernel_rfl

def clauseV (g : G) (x : Int) : Value := .pointer (if live g x = true then some ⟨g.cb x.toNat, 0, none⟩ else none)

theorem St.look (s : St k w g) {x : Int} (h0 : -9223372036854775808 ≤ x) (h1 : x ≤ 9223372036854775807) : (Instr.lookup 49 (.map g.mp) (.int .i64 x) false).run Tryz.prog w = .ok (clauseV g x) w := by
  rcases s.l.mp with ⟨e1, e2⟩ | ⟨mb, D, e1, m⟩
  · have hl : live g x = false := by simp [live, e2]; omega
    rw [e1, clauseV, hl]
    exact look_nil x w
  · rw [e1]
    obtain ⟨v, ps, hr, hv⟩ := m.own.lookup law3 Tryz.underlying49 (zero84 w) (zd := .held none) (zp := []) rfl (keyOf_int_mk Tryz.underlying3 (wf_of h0 h1))
    rw [m.val x] at hv
    rw [hr]
    cases v <;> simp [ptrElem] at hv
    rw [hv.1]; rfl







theorem St.len (s : St k w g) (ty : TypeId) : (Builtin.len_ #[49] ty #[.map g.mp]).run Tryz.prog w = .ok (.int .i64 (liveN g)) w := by
  rcases s.l.mp with ⟨e1, e2⟩ | ⟨mb, D, e1, m⟩
  · have hl : liveN g = 0 := by simp [liveN, e2]
    rw [e1, hl]
    exact len_nil ty w
  · rw [e1, m.own.len Tryz.underlying49 ty, m.size]








end

end Go.Proofs.YtikdmgemhfmipaaGreat
