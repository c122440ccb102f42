/-
  free, Value, Level, Reason, Levels, Lits of a trail, as its list says.
-/
import Derived.Test.YtimpoagdidnpiaaLooks
namespace Go.Proofs.Ytimpoagdidnpiaa
open Go.RowKit
set_option linter.unusedVariables false

def castS (S : List Nat) : List Int := S.map (fun s : Nat => (s : Int))

/-- A trail whose list is L, at level lev. -/
def Trl (k : K) (w : World) (L : List E) (lev : Nat) (p : V) : Prop := ∃ F S, Raw k w F (litsF L) (castS S) p ∧ Good k.n L F S ∧ S.length = lev

theorem Trl.below {k : K} {w w' : World} {L : List E} {lev : Nat} {p : V} (t : Trl k w L lev p) (b : Below w.heap.size w w') : Trl k w' L lev p := by
  obtain ⟨F, S, s, g, h⟩ := t; exact ⟨F, S, s.below b, g, h⟩
theorem Trl.keep {k : K} {w w' : World} {L : List E} {lev : Nat} {p : V} (t : Trl k w L lev p) {r : Option Nat} (g : w.grownBy w' r) (hr : ∀ j, r = some j → ¬ Mine k p j) : Trl k w' L lev p := by
  obtain ⟨F, S, s, q, h⟩ := t; exact ⟨F, S, s.keep g hr, q, h⟩
theorem Trl.lt {k : K} {w : World} {L : List E} {lev : Nat} {p : V} (t : Trl k w L lev p) {j : Nat} (h : Mine k p j) : k.B ≤ j ∧ j < w.heap.size := by
  obtain ⟨F, S, s, _⟩ := t; exact s.mine_lt h
theorem Trl.len {k : K} {w : World} {L : List E} {lev : Nat} {p : V} (t : Trl k w L lev p) : L.length ≤ k.n ∧ k.n ≤ 1048576 ∧ lev ≤ L.length := by
  obtain ⟨F, S, s, g, h⟩ := t; exact ⟨g.len, s.hn, by rw [← h]; exact g.ll⟩
theorem Trl.be {k : K} {w w1 w' : World} {L : List E} {lev : Nat} {p p' : V} (t : Trl k w1 L lev p) (f : Fr k p p' w1 w') (hB : k.B = w.heap.size) (b : Below w.heap.size w w1) : Below w.heap.size w w' := by
  obtain ⟨F, S, s, _⟩ := t
  have h1 := b.size
  have := Fr.be s f (by omega)
  rw [hB] at this
  exact b.trans this

/-- That a literal can not be assigned. -/
def No (n : Nat) (F : Nat → Fc) (l : Int) : Prop := l < 0 ∨ ∃ m u : Nat, l = m ∧ m / 2 = u ∧ (n ≤ u ∨ (u < n ∧ (F u).v ≠ 0))

theorem Good.cases {n : Nat} {L : List E} {F : Nat → Fc} {S : List Nat} (g : Good n L F S) (l : Int) : (mayF n L l = false ∧ No n F l) ∨ (mayF n L l = true ∧ ∃ m u : Nat, l = m ∧ m / 2 = u ∧ u < n ∧ (F u).v = 0) := by
  by_cases h0 : l < 0
  · exact .inl ⟨may_out (.inl h0), .inl h0⟩
  · obtain ⟨m, rfl⟩ : ∃ m : Nat, l = m := ⟨l.toNat, by omega⟩
    by_cases h1 : m / 2 < n
    · by_cases h2 : (F (m / 2)).v = 0
      · exact .inr ⟨by rw [g.may m _ rfl h1]; simp [h2], m, _, rfl, rfl, h1, h2⟩
      · exact .inl ⟨by rw [g.may m _ rfl h1]; simp [h2], .inr ⟨m, _, rfl, rfl, .inr ⟨h1, h2⟩⟩⟩
    · exact .inl ⟨may_out (.inr (by omega)), .inr ⟨m, _, rfl, rfl, .inl (by omega)⟩⟩

section
variable {k : K} {w : World} {F : Nat → Fc} {ls ss : List Int} {p : V}

theorem free_no (s : Raw k w F ls ss p) (l : Int) (hu : l ≤ 9223372036854775807) (h : No k.n F l) : Calls Try.prog 32 #[.pointer (some ⟨k.OB, 0, none⟩), .int .i64 l] w fun e w' => e = .returned (.bool false) ∧ Below w.heap.size w w' := by
  have HS := hid s
  clear s
  rcases h with h | ⟨m, u, rfl, hm, h | ⟨h, hz⟩⟩
  · have hi : isF k.n (-1) = false := by simp [isF]
    go_enter Try.func32, Try.ntmps32
    go_wp2_with (first
      | (go_at_call 26; with_reducible (refine (var_neg _ h _).mono ?_); rintro e w1 ⟨rfl, b1⟩)
      | (go_at_call 27; with_reducible (refine (is_any (HS.out.below b1) _).mono ?_); rintro e w1 ⟨rfl, rfl⟩))
    go_ret
    exact ⟨rfl, b1⟩
  · have hi : isF k.n u = false := by simp [isF]; omega
    have HM := hid hm
    clear hm
    go_enter Try.func32, Try.ntmps32
    go_wp2_with (first
      | (go_at_call 26; with_reducible (refine (var_nat _ _ HM.out hu _).mono ?_); rintro e w1 ⟨rfl, b1⟩)
      | (go_at_call 27; with_reducible (refine (is_any (HS.out.below b1) _).mono ?_); rintro e w1 ⟨rfl, rfl⟩))
    go_ret
    exact ⟨rfl, b1⟩
  · have hi := isF_nat h
    have HM := hid hm
    obtain ⟨x, hx⟩ : ∃ x, (F u).v = x := ⟨_, rfl⟩
    have HX := hid hx
    rw [hx] at hz
    have hz' : (x != 0) = true := by simpa using hz
    clear hm hx hz
    go_enter Try.func32, Try.ntmps32
    go_wp2_with (first
      | (go_at_call 26; with_reducible (refine (var_nat _ _ HM.out hu _).mono ?_); rintro e w1 ⟨rfl, b1⟩)
      | (go_at_call 27; with_reducible (refine (is_any (HS.out.below b1) _).mono ?_); rintro e w1 ⟨rfl, rfl⟩)
      | (go_at_call 30; with_reducible (refine (assigned_yes (HS.out.below b1) u h HX.out).mono ?_); rintro e w1 ⟨rfl, rfl⟩))
    go_ret
    exact ⟨rfl, b1⟩

theorem free_yes (s : Raw k w F ls ss p) (m u : Nat) (hm : m / 2 = u) (hu : (m : Int) ≤ 9223372036854775807) (h : u < k.n) (hz : (F u).v = 0) : Calls Try.prog 32 #[.pointer (some ⟨k.OB, 0, none⟩), .int .i64 m] w fun e w' => e = .returned (.bool true) ∧ Below w.heap.size w w' := by
  have HS := hid s
  have hi := isF_nat h
  have HM := hid hm
  have HX := hid hz
  clear s hm hz
  go_enter Try.func32, Try.ntmps32
  go_wp2_with (first
    | (go_at_call 26; with_reducible (refine (var_nat _ _ HM.out hu _).mono ?_); rintro e w1 ⟨rfl, b1⟩)
    | (go_at_call 27; with_reducible (refine (is_any (HS.out.below b1) _).mono ?_); rintro e w1 ⟨rfl, rfl⟩)
    | (go_at_call 30; with_reducible (refine (assigned_yes (HS.out.below b1) u h HX.out).mono ?_); rintro e w1 ⟨rfl, rfl⟩))
  go_ret
  exact ⟨rfl, b1⟩

theorem value_out (s : Raw k w F ls ss p) (l : Int) (hu : l ≤ 9223372036854775807) (h : l < 0 ∨ ∃ m u : Nat, l = m ∧ m / 2 = u ∧ k.n ≤ u) : Calls Try.prog 11 #[.pointer (some ⟨k.OB, 0, none⟩), .int .i64 l] w fun e w' => e = .returned (.int .i64 0) ∧ Below w.heap.size w w' := by
  have HS := hid s
  clear s
  rcases h with h | ⟨m, u, rfl, hm, h⟩
  · have hi : isF k.n (-1) = false := by simp [isF]
    go_enter Try.func11, Try.ntmps11
    go_wp2_with (first
      | (go_at_call 26; with_reducible (refine (var_neg _ h _).mono ?_); rintro e w1 ⟨rfl, b1⟩)
      | (go_at_call 27; with_reducible (refine (is_any (HS.out.below b1) _).mono ?_); rintro e w1 ⟨rfl, rfl⟩))
    go_ret
    exact ⟨rfl, b1⟩
  · have hi : isF k.n u = false := by simp [isF]; omega
    have HM := hid hm
    clear hm
    go_enter Try.func11, Try.ntmps11
    go_wp2_with (first
      | (go_at_call 26; with_reducible (refine (var_nat _ _ HM.out hu _).mono ?_); rintro e w1 ⟨rfl, b1⟩)
      | (go_at_call 27; with_reducible (refine (is_any (HS.out.below b1) _).mono ?_); rintro e w1 ⟨rfl, rfl⟩))
    go_ret
    exact ⟨rfl, b1⟩

theorem value_in (s : Raw k w F ls ss p) (m u : Nat) (hm : m / 2 = u) (hu : (m : Int) ≤ 9223372036854775807) (h : u < k.n) {x y : Int} (hx : (F u).v = x) (hb : -1 ≤ x ∧ x ≤ 1) (hy : (if m % 2 = 1 then -x else x) = y) :
    Calls Try.prog 11 #[.pointer (some ⟨k.OB, 0, none⟩), .int .i64 m] w fun e w' => e = .returned (.int .i64 y) ∧ Below w.heap.size w w' := by
  have HS := hid s
  have hi := isF_nat h
  have HM := hid hm
  have h' : (u : Int) < k.n := by omega
  have c0 := s.c0
  have fa := (s.fa h).1
  rw [hx] at fa
  obtain ⟨hb1, hb2⟩ := hb
  by_cases ho : m % 2 = 1
  · have HO : Hid (decide (m % 2 = 1) = true) := hid (by simp [ho])
    rw [if_pos ho] at hy
    subst hy
    clear s hm hx ho
    go_enter Try.func11, Try.ntmps11
    go_wp2_with (first
      | (go_at_call 26; with_reducible (refine (var_nat _ _ HM.out hu _).mono ?_); rintro e w1 ⟨rfl, b1⟩)
      | (go_at_call 27; with_reducible (refine (is_any (HS.out.below b1) _).mono ?_); rintro e w1 ⟨rfl, rfl⟩)
      | (go_at_call 28; with_reducible (refine (neg_nat _ _ HO.out hu _).mono ?_); rintro e w2 ⟨rfl, b2⟩; have c0' := (b2.cell (cell_lt ((b1.cell (cell_lt c0)).trans c0))).trans ((b1.cell (cell_lt c0)).trans c0); have fa' := (b2.cell (cell_lt ((b1.cell (cell_lt fa)).trans fa))).trans ((b1.cell (cell_lt fa)).trans fa)))
    go_ret
    exact ⟨rfl, Below.next b1 b2⟩
  · have HO : Hid (decide (m % 2 = 1) = false) := hid (by simp [ho])
    rw [if_neg ho] at hy
    subst hy
    clear s hm hx ho
    go_enter Try.func11, Try.ntmps11
    go_wp2_with (first
      | (go_at_call 26; with_reducible (refine (var_nat _ _ HM.out hu _).mono ?_); rintro e w1 ⟨rfl, b1⟩)
      | (go_at_call 27; with_reducible (refine (is_any (HS.out.below b1) _).mono ?_); rintro e w1 ⟨rfl, rfl⟩)
      | (go_at_call 28; with_reducible (refine (neg_nat _ _ HO.out hu _).mono ?_); rintro e w2 ⟨rfl, b2⟩; have c0' := (b2.cell (cell_lt ((b1.cell (cell_lt c0)).trans c0))).trans ((b1.cell (cell_lt c0)).trans c0); have fa' := (b2.cell (cell_lt ((b1.cell (cell_lt fa)).trans fa))).trans ((b1.cell (cell_lt fa)).trans fa)))
    go_ret
    exact ⟨rfl, Below.next b1 b2⟩

theorem level_no (s : Raw k w F ls ss p) (v : Int) (h : isF k.n v = false) : Calls Try.prog 13 #[.pointer (some ⟨k.OB, 0, none⟩), .int .i64 v] w fun e w' => e = .returned (.int .i64 (-1)) ∧ w' = w := by
  have HS := hid s
  clear s
  go_enter Try.func13, Try.ntmps13
  go_wp2_with (go_at_call 30; with_reducible (refine (assigned_no HS.out _ h).mono ?_); rintro e w ⟨rfl, rfl⟩)
  go_ret
  exact ⟨rfl, rfl⟩

theorem level_yes (s : Raw k w F ls ss p) (v : Nat) (h : v < k.n) {y : Int} (hy : ((F v).v = 0 ∧ y = -1) ∨ ((F v).v ≠ 0 ∧ y = (F v).g)) : Calls Try.prog 13 #[.pointer (some ⟨k.OB, 0, none⟩), .int .i64 v] w fun e w' => e = .returned (.int .i64 y) ∧ w' = w := by
  have HS := hid s
  obtain ⟨x, hx⟩ : ∃ x, (F v).v = x := ⟨_, rfl⟩
  have HX := hid hx
  rw [hx] at hy
  have c0 := s.c0
  have fa := (s.fa h).2.1
  have h' : (v : Int) < k.n := by omega
  clear s hx
  rcases hy with ⟨hz, rfl⟩ | ⟨hz, hy⟩
  · have hz' : (x != 0) = false := by simpa using hz
    clear hz
    go_enter Try.func13, Try.ntmps13
    go_wp2_with (go_at_call 30; with_reducible (refine (assigned_yes HS.out _ h HX.out).mono ?_); rintro e w ⟨rfl, rfl⟩)
    go_ret
    exact ⟨rfl, rfl⟩
  · have hz' : (x != 0) = true := by simpa using hz
    rw [← hy] at fa
    clear hz hy
    go_enter Try.func13, Try.ntmps13
    go_wp2_with (go_at_call 30; with_reducible (refine (assigned_yes HS.out _ h HX.out).mono ?_); rintro e w ⟨rfl, rfl⟩)
    go_ret
    exact ⟨rfl, rfl⟩

theorem reason_no (s : Raw k w F ls ss p) (v : Int) (h : isF k.n v = false) : Calls Try.prog 15 #[.pointer (some ⟨k.OB, 0, none⟩), .int .i64 v] w fun e w' => e = .returned (.int .i64 (-1)) ∧ w' = w := by
  have HS := hid s
  clear s
  go_enter Try.func15, Try.ntmps15
  go_wp2_with (go_at_call 30; with_reducible (refine (assigned_no HS.out _ h).mono ?_); rintro e w ⟨rfl, rfl⟩)
  go_ret
  exact ⟨rfl, rfl⟩

theorem reason_yes (s : Raw k w F ls ss p) (v : Nat) (h : v < k.n) {y : Int} (hy : ((F v).v = 0 ∧ y = -1) ∨ ((F v).v ≠ 0 ∧ y = (F v).r)) : Calls Try.prog 15 #[.pointer (some ⟨k.OB, 0, none⟩), .int .i64 v] w fun e w' => e = .returned (.int .i64 y) ∧ w' = w := by
  have HS := hid s
  obtain ⟨x, hx⟩ : ∃ x, (F v).v = x := ⟨_, rfl⟩
  have HX := hid hx
  rw [hx] at hy
  have c0 := s.c0
  have fa := (s.fa h).2.2
  have h' : (v : Int) < k.n := by omega
  clear s hx
  rcases hy with ⟨hz, rfl⟩ | ⟨hz, hy⟩
  · have hz' : (x != 0) = false := by simpa using hz
    clear hz
    go_enter Try.func15, Try.ntmps15
    go_wp2_with (go_at_call 30; with_reducible (refine (assigned_yes HS.out _ h HX.out).mono ?_); rintro e w ⟨rfl, rfl⟩)
    go_ret
    exact ⟨rfl, rfl⟩
  · have hz' : (x != 0) = true := by simpa using hz
    rw [← hy] at fa
    clear hz hy
    go_enter Try.func15, Try.ntmps15
    go_wp2_with (go_at_call 30; with_reducible (refine (assigned_yes HS.out _ h HX.out).mono ?_); rintro e w ⟨rfl, rfl⟩)
    go_ret
    exact ⟨rfl, rfl⟩
end

/-! ### As the list says -/
section
variable {k : K} {w : World} {L : List E} {lev : Nat} {p : V}

theorem value_is (t : Trl k w L lev p) (l : Int) (hu : l ≤ 9223372036854775807) {y : Int} (hy : valueF L l = y) : Calls Try.prog 11 #[.pointer (some ⟨k.OB, 0, none⟩), .int .i64 l] w fun e w' => e = .returned (.int .i64 y) ∧ Hid (Below w.heap.size w w') := by
  obtain ⟨F, S, s, g, _⟩ := t
  subst hy
  by_cases h0 : l < 0
  · rw [value_neg h0]; exact value_out s l hu (.inl h0)
  · obtain ⟨m, rfl⟩ : ∃ m : Nat, l = m := ⟨l.toNat, by omega⟩
    by_cases h1 : m / 2 < k.n
    · refine value_in s m _ rfl hu h1 rfl ?_ (g.value m _ rfl h1).symm
      by_cases hz : (F (m / 2)).v = 0
      · rw [hz]; omega
      · obtain ⟨e, _, he, hv⟩ := g.has h1 hz
        have := g.f1 e he
        rw [hv] at this
        rw [this]
        simp only [factOf]
        rcases sg_cases e.l with ⟨_, b⟩ | ⟨_, b⟩ <;> rw [b] <;> omega
    · rw [g.valueOut (by omega)]; exact value_out s _ hu (.inr ⟨m, _, rfl, rfl, by omega⟩)

theorem level_is (t : Trl k w L lev p) (v : Int) {y : Int} (hy : levelF L v = y) : Calls Try.prog 13 #[.pointer (some ⟨k.OB, 0, none⟩), .int .i64 v] w fun e w' => e = .returned (.int .i64 y) ∧ w' = w := by
  obtain ⟨F, S, s, g, _⟩ := t
  subst hy
  cases hi : isF k.n v
  · rw [(g.lookOut (v := v) (by simp [isF] at hi; omega)).1]; exact level_no s v hi
  · obtain ⟨u, rfl, hu⟩ := isF_yes hi
    refine level_yes s u hu ?_
    rcases g.look hu with ⟨h1, h2, _⟩ | ⟨h1, h2, _⟩
    · exact .inl ⟨h1, h2⟩
    · exact .inr ⟨h1, h2⟩

theorem reason_is (t : Trl k w L lev p) (v : Int) {y : Int} (hy : reasonF L v = y) : Calls Try.prog 15 #[.pointer (some ⟨k.OB, 0, none⟩), .int .i64 v] w fun e w' => e = .returned (.int .i64 y) ∧ w' = w := by
  obtain ⟨F, S, s, g, _⟩ := t
  subst hy
  cases hi : isF k.n v
  · rw [(g.lookOut (v := v) (by simp [isF] at hi; omega)).2]; exact reason_no s v hi
  · obtain ⟨u, rfl, hu⟩ := isF_yes hi
    refine reason_yes s u hu ?_
    rcases g.look hu with ⟨h1, _, h2⟩ | ⟨h1, _, h2⟩
    · exact .inl ⟨h1, h2⟩
    · exact .inr ⟨h1, h2⟩

theorem levels_is (t : Trl k w L lev p) : Calls Try.prog 10 #[.pointer (some ⟨k.OB, 0, none⟩)] w fun e w' => e = .returned (.int .i64 lev) ∧ w' = w := by
  obtain ⟨F, S, s, g, rfl⟩ := t
  have := levels_any s
  rw [show (castS S).length = S.length by simp [castS]] at this
  exact this

theorem litsF_len (L : List E) : (litsF L).length = L.length := by simp [litsF]

/-- The literals, with no room behind them. -/
theorem lits_is (t : Trl k w L lev p) : Calls Try.prog 18 #[.pointer (some ⟨k.OB, 0, none⟩)] w fun e w' => ∃ ao, e = .returned (.slice ao L.length L.length) ∧ Hid (LRow w (k.OB + 1) (.slice ao L.length L.length) (litsF L) ∧ p.l.ownBlock = (Value.slice ao L.length L.length).ownBlock) ∧ w' = w := by
  obtain ⟨F, S, s, g, _⟩ := t
  have c1 := s.c1
  have hlen := litsF_len L
  rcases s.rl with ⟨h1, h2⟩ | ⟨b, cap, cur, h1, h2, h3, h4, h5, h6, h7⟩
  · have hL : L.length = 0 := by rw [← hlen, h2]; rfl
    have HR : Hid (LRow w (k.OB + 1) (.slice none 0 0) (litsF L) ∧ p.l.ownBlock = (Value.slice none 0 0).ownBlock) := hid ⟨.inl ⟨rfl, h2⟩, by rw [h1]⟩
    rw [h1] at c1
    rw [hL]
    clear s g h1 h2 hlen hL
    go_enter Try.func18, Try.ntmps18
    go_wp2
    go_ret
    exact ⟨_, rfl, HR, rfl⟩
  · have HR : Hid (LRow w (k.OB + 1) (.slice (some ⟨b, 0, none⟩) L.length L.length) (litsF L) ∧ p.l.ownBlock = (Value.slice (some ⟨b, 0, none⟩) L.length L.length).ownBlock) := by
      refine hid ⟨?_, by rw [h1]; rfl⟩
      have q : LRow w (k.OB + 1) (.slice (some ⟨b, 0, none⟩) (litsF L).length cap) (litsF L) := .inr ⟨b, cap, cur, rfl, h2, h3, h4, h5, h6, h7⟩
      have := q.full (m := L.length) (by omega)
      rw [← hlen, List.take_length, hlen] at this
      exact this
    rw [h1, hlen] at c1
    rw [hlen] at h4
    have h4' : (L.length : Int) ≤ cap := by omega
    unfold maxLen at h5
    have h5' : (cap : Int) ≤ 9223372036854775807 := by omega
    clear s g h1 h2 h3 h6 h7 hlen h5
    go_enter Try.func18, Try.ntmps18
    go_wp2
    go_ret
    exact ⟨_, rfl, HR, rfl⟩
end

end Go.Proofs.Ytimpoagdidnpiaa
