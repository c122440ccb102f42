/-
  An order (stage 8): Sink, State.
-/
import Derived.Maps.AppendAt
import Derived.Test.YtimfjoinjfecjaaGreatQ20

namespace Go.Proofs.YtimfjoinjfecjaaGreat.Od
open Go.RowKit
set_option linter.unusedVariables false

structure SinkRel (k : K) (w : World) (A hs : List Int) (wv : Value) (v lo : Nat) (wr : World) (hs1 : List Int) (i : Nat) : Prop where
  mv : Mv k w A hs wv v wr hs1 i
  su : Sunk (ac A) hs.length (fn hs1) lo i
  lo : lo ≤ i

def SinkEnd (k : K) (A hs : List Int) (wv : Value) (v lo : Nat) (w w' : World) : Prop :=
  ∃ hs' i', Mv k w A hs wv v w' hs' i' ∧ Heap (ac A) hs.length (fn hs') lo

theorem SinkRel.below {k : K} {w wr wq : World} {A hs hs1 : List Int} {wv : Value} {v lo i : Nat} (r : SinkRel k w A hs wv v lo wr hs1 i) (b : Below wr.heap.size wr wq) : SinkRel k w A hs wv v lo wq hs1 i :=
  ⟨r.mv.below b, r.su, r.lo⟩

theorem SinkEnd.below {k : K} {w w' wq : World} {A hs : List Int} {wv : Value} {v lo : Nat} (r : SinkEnd k A hs wv v lo w w') (b : Below w'.heap.size w' wq) : SinkEnd k A hs wv v lo w wq := by
  obtain ⟨h, i, m, r⟩ := r; exact ⟨h, i, m.below b, r⟩

/-- d is a child of i that none of its children comes ahead of. -/
def Best (A hs : List Int) (m i d : Nat) : Prop := 0 < d ∧ d < m ∧ par d = i ∧ ∀ c, 0 < c → c < m → par c = i → ahd (ac A) (fn hs c) (fn hs d) = false

theorem best_only {A hs : List Int} {m i : Nat} (h1 : 2 * i + 1 < m) (h2 : m ≤ 2 * i + 2) : Best A hs m i (2 * i + 1) :=
  ⟨by omega, h1, par_one i, fun c c0 cm cp => by rw [kid_one h2 c0 cm cp]; exact ahd_self _ _⟩
theorem best_left {A hs : List Int} {m i : Nat} (h1 : 2 * i + 1 < m) (h : ahd (ac A) (fn hs (2 * i + 2)) (fn hs (2 * i + 1)) = false) : Best A hs m i (2 * i + 1) :=
  ⟨by omega, h1, par_one i, fun c c0 cm cp => by
    rcases kid_two c0 cp with rfl | rfl
    · exact ahd_self _ _
    · exact h⟩
theorem best_right {A hs : List Int} {m i : Nat} (h1 : 2 * i + 2 < m) (h : ahd (ac A) (fn hs (2 * i + 2)) (fn hs (2 * i + 1)) = true) : Best A hs m i (2 * i + 2) :=
  ⟨by omega, h1, par_two i, fun c c0 cm cp => by
    rcases kid_two c0 cp with rfl | rfl
    · exact ahd_rev h
    · exact ahd_self _ _⟩

theorem SinkRel.leaf {k : K} {w wr : World} {A hs hs1 : List Int} {wv : Value} {v lo i : Nat} (r : SinkRel k w A hs wv v lo wr hs1 i) (h : hs.length ≤ 2 * i + 1) : SinkEnd k A hs wv v lo w wr :=
  ⟨hs1, i, r.mv, sunk_heap r.su (kids_none h)⟩

theorem SinkRel.stay {k : K} {w wr : World} {A hs hs1 : List Int} {wv : Value} {v lo i d : Nat} (r : SinkRel k w A hs wv v lo wr hs1 i) (b : Best A hs1 hs.length i d) (h : ahd (ac A) v (fn hs1 d) = true) : SinkEnd k A hs wv v lo w wr :=
  ⟨hs1, i, r.mv, sunk_heap r.su (kids_of b.2.2.2 (by rw [r.mv.at_]; exact h))⟩

theorem SinkRel.next {k : K} {w wr w' : World} {A hs hs1 : List Int} {wv : Value} {v lo i d : Nat} (r : SinkRel k w A hs wv v lo wr hs1 i) (b : Best A hs1 hs.length i d) (h : ahd (ac A) v (fn hs1 d) = false) (s : SwapEnd k A hs1 wv i d wr w') :
    ∃ hs2, SinkRel k w A hs wv v lo w' hs2 d := by
  obtain ⟨b1, b2, b3, b4⟩ := b
  have hp := par_lt b1
  have hl := r.lo
  obtain ⟨hs2, m, e⟩ := r.mv.swap b2 s
  refine ⟨hs2, m, ?_, by omega⟩
  rw [e]
  exact sink_step r.su hl b1 b2 b3 b4 (by rw [r.mv.at_]; exact h)

set_option maxHeartbeats 2000000 in
theorem sink_any {k : K} {w : World} {A hs : List Int} {wv : Value} (s : Gd k w A hs wv) (v i0 lo : Nat) (hi : i0 < hs.length) (hv : fn hs i0 = v) (b : Sunk (ac A) hs.length (fn hs) lo i0) (hlo : lo ≤ i0) :
    Calls Tryz.prog 98 #[.pointer (some ⟨k.OB, 0, none⟩), .int .i64 v, .func (.func 45) #[.pointer (some ⟨k.OB, 0, none⟩)] #[]] w fun e w' => e = .returned (.tuple #[]) ∧ SinkEnd k A hs wv v lo w w' := by
  have M0 : Mv k w A hs wv v w hs i0 := ⟨s, rfl, hi, hv, fun x => Iff.rfl, Fr.refl _ _ _⟩
  have hvn := M0.vn
  have hvn' : (v : Int) < k.n := by omega
  have hsm := M0.small
  have R0 : Hid (SinkRel k w A hs wv v lo w hs i0) := hid ⟨M0, b, hlo⟩
  obtain ⟨P, s, p⟩ := s
  have c2 := s.c2
  have cp := s.cp hvn
  have hpl := (p.1 i0 hi).2.2
  rw [hv, Int.toNat_natCast] at hpl
  rw [hpl] at cp
  clear s p hpl b hv M0
  go_enter Tryz.func98, Tryz.ntmps98
  go_wp2
  go_loopw [6, 7] (fun a d wr => ∃ (i j : Nat) (hs1 : List Int), a = .int .i64 i ∧ d = .int .i64 j ∧ Hid (j = 2 * i + 1) ∧ i < hs.length ∧ Hid (SinkRel k w A hs wv v lo wr hs1 i)) (fun a _ _ => hs.length - (intOf a).toNat)
  case atStart => exact ⟨i0, 2 * i0 + 1, hs, by simp, by simp, rfl, hi, R0⟩
  case round =>
    clear c2 cp R0
    obtain ⟨i, j, hs1, rfl, rfl, hj, hil, hr⟩ := hrel
    by_cases h1 : j < hs.length
    · obtain ⟨g, cap, rfl, u, hu, hun, c1, cu⟩ := hr.out.mv.look h1
      have h1' : (j : Int) < hs.length := by omega
      have hlt : i < j := by have := hj.out; omega
      have hl1 : j < hs1.length := by rw [hr.out.mv.len]; exact h1
      have hl2 : i < hs1.length := by rw [hr.out.mv.len]; exact hil
      have HG := hid hr.out.mv.gd
      by_cases h2 : j + 1 < hs.length
      · obtain ⟨g2, cap2, e2, u2, hu2, hun2, _, cu2⟩ := hr.out.mv.look h2
        cases e2
        have h2' : (j : Int) + 1 < hs.length := by omega
        have hl3 : j + 1 < hs1.length := by rw [hr.out.mv.len]; exact h2
        cases ha : ahd (ac A) u2 u
        · have HB : Hid (Best A hs1 hs.length i (j)) := hid (by
            have := hj.out; subst this
            exact best_left h1 (by rw [hu, hu2]; exact ha))
          cases hb : ahd (ac A) v u
          · have HC : Hid (ahd (ac A) v (fn hs1 (j)) = false) := hid (by rw [hu]; exact hb)
            clear hu hu2
            go_wp2
            go_quiet ((go_at_call 45; refine Calls.quiet_of (ahead_gd (HG.out.drewN _) _ _ hun2 hun)))
            go_wp2_with (first
              | (go_at_call 45; with_reducible (refine (ahead_gd (HG.out.drewN _) v u hvn hun).mono ?_); rintro e w1 ⟨rfl, m, rfl⟩; have hr1 := hid (hr.out.below (below_drewN' wr (nq + m))))
              | (go_at_call 72; with_reducible (refine (swap_at hr1.out.mv.gd (i := i) (j := j) rfl (by simp) hl2 hl1).mono ?_); rintro e w2 ⟨rfl, hs2⟩))
            go_roundw
            case rel =>
              obtain ⟨hs3, r3⟩ := hr1.out.next HB.out HC.out hs2
              exact ⟨j, 2 * (j) + 1, hs3, by simp, by simp, rfl, by omega, r3⟩
            case measure => simp only [intOf]; omega
          · have HC : Hid (ahd (ac A) v (fn hs1 (j)) = true) := hid (by rw [hu]; exact hb)
            have HD := hid (hr.out.stay HB.out HC.out)
            clear hu hu2
            go_wp2
            go_quiet ((go_at_call 45; refine Calls.quiet_of (ahead_gd (HG.out.drewN _) _ _ hun2 hun)))
            go_wp2_with (go_at_call 45; with_reducible (refine (ahead_gd (HG.out.drewN _) v u hvn hun).mono ?_); rintro e w1 ⟨rfl, m, rfl⟩)
            refine bodyPost_ret (results_none rfl _ _ _) rfl ?_
            exact ⟨rfl, HD.out.below (below_drewN' _ _)⟩
        · have HB : Hid (Best A hs1 hs.length i (j + 1)) := hid (by
            have := hj.out; subst this
            exact best_right (by omega) (by rw [hu, hu2]; exact ha))
          cases hb : ahd (ac A) v u2
          · have HC : Hid (ahd (ac A) v (fn hs1 (j + 1)) = false) := hid (by rw [hu2]; exact hb)
            clear hu hu2
            go_wp2
            go_quiet ((go_at_call 45; refine Calls.quiet_of (ahead_gd (HG.out.drewN _) _ _ hun2 hun)))
            go_wp2_with (first
              | (go_at_call 45; with_reducible (refine (ahead_gd (HG.out.drewN _) v u2 hvn hun2).mono ?_); rintro e w1 ⟨rfl, m, rfl⟩; have hr1 := hid (hr.out.below (below_drewN' wr (nq + m))))
              | (go_at_call 72; with_reducible (refine (swap_at hr1.out.mv.gd (i := i) (j := j + 1) rfl (by simp) hl2 hl3).mono ?_); rintro e w2 ⟨rfl, hs2⟩))
            go_roundw
            case rel =>
              obtain ⟨hs3, r3⟩ := hr1.out.next HB.out HC.out hs2
              exact ⟨j + 1, 2 * (j + 1) + 1, hs3, by simp, by simp, rfl, by omega, r3⟩
            case measure => simp only [intOf]; omega
          · have HC : Hid (ahd (ac A) v (fn hs1 (j + 1)) = true) := hid (by rw [hu2]; exact hb)
            have HD := hid (hr.out.stay HB.out HC.out)
            clear hu hu2
            go_wp2
            go_quiet ((go_at_call 45; refine Calls.quiet_of (ahead_gd (HG.out.drewN _) _ _ hun2 hun)))
            go_wp2_with (go_at_call 45; with_reducible (refine (ahead_gd (HG.out.drewN _) v u2 hvn hun2).mono ?_); rintro e w1 ⟨rfl, m, rfl⟩)
            refine bodyPost_ret (results_none rfl _ _ _) rfl ?_
            exact ⟨rfl, HD.out.below (below_drewN' _ _)⟩
      · have h2d : decide ((j : Int) + 1 < hs.length) = false := by simp; omega
        have HB : Hid (Best A hs1 hs.length i (j)) := hid (by
          have := hj.out; subst this
          exact best_only h1 (by omega))
        cases hb : ahd (ac A) v u
        · have HC : Hid (ahd (ac A) v (fn hs1 (j)) = false) := hid (by rw [hu]; exact hb)
          clear hu
          go_wp2
          go_quiet (fail)
          go_wp2_with (first
            | (go_at_call 45; with_reducible (refine (ahead_gd (HG.out.drewN _) v u hvn hun).mono ?_); rintro e w1 ⟨rfl, m, rfl⟩; have hr1 := hid (hr.out.below (below_drewN' wr (nq + m))))
            | (go_at_call 72; with_reducible (refine (swap_at hr1.out.mv.gd (i := i) (j := j) rfl (by simp) hl2 hl1).mono ?_); rintro e w2 ⟨rfl, hs2⟩))
          go_roundw
          case rel =>
            obtain ⟨hs3, r3⟩ := hr1.out.next HB.out HC.out hs2
            exact ⟨j, 2 * (j) + 1, hs3, by simp, by simp, rfl, by omega, r3⟩
          case measure => simp only [intOf]; omega
        · have HC : Hid (ahd (ac A) v (fn hs1 (j)) = true) := hid (by rw [hu]; exact hb)
          have HD := hid (hr.out.stay HB.out HC.out)
          clear hu
          go_wp2
          go_quiet (fail)
          go_wp2_with (go_at_call 45; with_reducible (refine (ahead_gd (HG.out.drewN _) v u hvn hun).mono ?_); rintro e w1 ⟨rfl, m, rfl⟩)
          refine bodyPost_ret (results_none rfl _ _ _) rfl ?_
          exact ⟨rfl, HD.out.below (below_drewN' _ _)⟩
    · have HD := hid (hr.out.leaf (by have := hj.out; omega))
      obtain ⟨ao, cap, rfl, c1⟩ : ∃ ao cap, wv = .slice ao hs.length cap ∧ wr.cell? ⟨k.OB, 1, none⟩ = some wv := by
        obtain ⟨P, s, _⟩ := hr.out.mv.gd
        obtain ⟨ao, cap, e⟩ := s.shape
        exact ⟨ao, cap, by rw [← hr.out.mv.len]; exact e, s.c1⟩
      go_wp2
      go_end0
      exact ⟨rfl, HD.out⟩

end Go.Proofs.YtimfjoinjfecjaaGreat.Od

namespace Go.Proofs.YtimfjoinjfecjaaGreat.Od
open Go.RowKit
set_option linter.unusedVariables false

def wt (W : List Bool) (v : Int) : Bool := W.getD v.toNat false

structure Good (n : Nat) (A : List Int) (W : List Bool) (hs : List Int) : Prop where
  lw : W.length = n
  wr : ∀ v : Nat, v < n → (wt W v = true ↔ In hs.length (fn hs) v)
  cn : W.count true = hs.length
  bd : ∀ v : Nat, v < n → 0 ≤ fn A v ∧ fn A v ≤ 1099511627776

def Ord (k : K) (w : World) (A : List Int) (W : List Bool) (wv : Value) : Prop := ∃ hs, Gd k w A hs wv ∧ Heap (ac A) hs.length (fn hs) 0 ∧ Good k.n A W hs

theorem Ord.below {k : K} {w w' : World} {A : List Int} {W : List Bool} {wv : Value} (s : Ord k w A W wv) (b : Below w.heap.size w w') : Ord k w' A W wv := by
  obtain ⟨hs, g, r⟩ := s; exact ⟨hs, g.below b, r⟩

/-! ### Who waits, by lists -/
theorem wt_set {W : List Bool} {v : Nat} (h : v < W.length) (b : Bool) (u : Nat) : wt (W.set v b) (u : Int) = if u = v then b else wt W u := by
  simp only [wt, Int.toNat_natCast, List.getD_eq_getElem?_getD, List.getElem?_set]
  by_cases e : v = u
  · subst e; simp [h]
  · rw [if_neg e, if_neg (fun q => e q.symm)]

theorem count_true {W : List Bool} {v : Nat} (h : v < W.length) (h0 : wt W v = false) : (W.set v true).count true = W.count true + 1 := by
  have e : W[v] = false := by simpa [wt, h] using h0
  rw [List.count_set h]
  simp [e]

theorem count_false {W : List Bool} {v : Nat} (h : v < W.length) (h0 : wt W v = true) : (W.set v false).count true + 1 = W.count true := by
  have e : W[v] = true := by simpa [wt, h] using h0
  have : 0 < W.count true := List.count_pos_iff.2 (e ▸ List.getElem_mem h)
  rw [List.count_set h]
  simp [e]
  omega

theorem Good.push {n : Nat} {A hs hs' : List Int} {W : List Bool} (g : Good n A W hs) {v : Nat} (hv : v < n) (h0 : wt W v = false) (hl : hs'.length = hs.length + 1) (hh : ∀ x, In hs'.length (fn hs') x ↔ In hs.length (fn hs) x ∨ x = v) :
    Good n A (W.set v true) hs' := by
  have hw : v < W.length := by rw [g.lw]; exact hv
  refine ⟨by rw [List.length_set]; exact g.lw, fun u hu => ?_, ?_, g.bd⟩
  · rw [wt_set hw, hh]
    by_cases e : u = v
    · subst e; simp
    · rw [if_neg e, g.wr u hu]
      constructor
      · exact .inl
      · rintro (h | h)
        · exact h
        · omega
  · rw [count_true hw h0, g.cn, hl]

theorem Good.pop {n : Nat} {A hs hs' : List Int} {W : List Bool} (g : Good n A W hs) {v : Nat} (hv : v < n) (h0 : wt W v = true) (hl : hs'.length + 1 = hs.length) (hh : ∀ x, In hs'.length (fn hs') x ↔ In hs.length (fn hs) x ∧ x ≠ v) :
    Good n A (W.set v false) hs' := by
  have hw : v < W.length := by rw [g.lw]; exact hv
  refine ⟨by rw [List.length_set]; exact g.lw, fun u hu => ?_, ?_, g.bd⟩
  · rw [wt_set hw, hh]
    by_cases e : u = v
    · subst e; simp
    · rw [if_neg e, g.wr u hu]
      constructor
      · exact fun h => ⟨h, by omega⟩
      · exact fun h => h.1
  · have := count_false hw h0
    have := g.cn
    omega

theorem Good.same {n : Nat} {A A' hs hs' : List Int} {W : List Bool} (g : Good n A W hs) (hl : hs'.length = hs.length) (hh : ∀ x, In hs.length (fn hs') x ↔ In hs.length (fn hs) x) (hb : ∀ v : Nat, v < n → 0 ≤ fn A' v ∧ fn A' v ≤ 1099511627776) : Good n A' W hs' :=
  ⟨g.lw, fun u hu => by rw [hl, hh]; exact g.wr u hu, by rw [hl]; exact g.cn, hb⟩

/-- The place of one that waits, or not. -/
theorem pl_in {n m : Nat} {h p : Nat → Int} (s : Pl n m h p) {v : Nat} (hv : v < n) : In m h v ↔ 0 < p v := by
  constructor
  · rintro ⟨i, hi, e⟩
    have := (s.1 i hi).2.2
    rw [e, Int.toNat_natCast] at this
    omega
  · intro h0
    exact s.2 v hv (by omega)

theorem pl_out {n m : Nat} {h p : Nat → Int} (s : Pl n m h p) {v : Nat} (hv : v < n) (hn : ¬ In m h v) : p v = 0 :=
  Classical.byContradiction fun c => hn (s.2 v hv c)

/-! ### What the calls make -/
def pushA (n : Nat) (W : List Bool) (v : Int) : Bool := isF n v && !wt W v
def pushW (n : Nat) (W : List Bool) (v : Int) : List Bool := if pushA n W v then W.set v.toNat true else W

def bestF (A : List Int) (W : List Bool) : Nat → Int
  | 0 => -1
  | q + 1 => if wt W q && (decide (bestF A W q < 0) || decide (ac A (bestF A W q) < ac A q)) then (q : Int) else bestF A W q

def popV (A : List Int) (W : List Bool) : Int := bestF A W A.length
def popA (A : List Int) (W : List Bool) : Bool := decide (0 ≤ popV A W)
def popW (A : List Int) (W : List Bool) : List Bool := if popA A W then W.set (popV A W).toNat false else W

def bumpF (A : List Int) (v d : Int) : List Int := if isF A.length v then A.set v.toNat (sumF (ac A v) d) else A
def halveF (A : List Int) : List Int := A.map (· / 2)

/-- The one that waits, and that comes ahead of all others that wait. -/
def First (A : List Int) (W : List Bool) (q : Nat) (v : Nat) : Prop := v < q ∧ wt W v = true ∧ ∀ u : Nat, u < q → wt W u = true → u ≠ v → ahd (ac A) v u = true

theorem bestF_is (A : List Int) (W : List Bool) (q : Nat) : (bestF A W q = -1 ∧ ∀ u : Nat, u < q → wt W u = false) ∨ ∃ v : Nat, bestF A W q = v ∧ First A W q v := by
  induction q with
  | zero => exact .inl ⟨rfl, fun u hu => by omega⟩
  | succ q ih =>
    rcases ih with ⟨e, h⟩ | ⟨v, e, h⟩
    · cases hw : wt W q
      · refine .inl ⟨by simp [bestF, hw, e], fun u hu => ?_⟩
        by_cases c : u = q
        · subst c; exact hw
        · exact h u (by omega)
      · refine .inr ⟨q, by simp [bestF, hw, e], by omega, hw, fun u hu hu2 hne => ?_⟩
        rw [h u (by omega)] at hu2
        cases hu2
    · cases hw : wt W q
      · refine .inr ⟨v, by simp [bestF, hw, e], by have := h.1; omega, h.2.1, fun u hu hu2 hne => ?_⟩
        by_cases c : u = q
        · subst c; rw [hw] at hu2; cases hu2
        · exact h.2.2 u (by omega) hu2 hne
      · have hv := h.1
        by_cases hlt : ac A v < ac A q
        · refine .inr ⟨q, by simp [bestF, hw, e, hlt], by omega, hw, fun u hu hu2 hne => ?_⟩
          rw [ahd_yes]
          by_cases c : u = v
          · subst c; omega
          · have := h.2.2 u (by omega) hu2 c
            rw [ahd_yes] at this
            omega
        · refine .inr ⟨v, ?_, by omega, h.2.1, fun u hu hu2 hne => ?_⟩
          · simp only [bestF, hw, e]
            rw [if_neg]
            simp
            omega
          · by_cases c : u = q
            · subst c; rw [ahd_yes]; omega
            · exact h.2.2 u (by omega) hu2 hne

theorem first_one {A : List Int} {W : List Bool} {q u v : Nat} (h : First A W q u) (g : First A W q v) : u = v := by
  by_cases e : u = v
  · exact e
  · have h1 := h.2.2 v g.1 g.2.1 (fun c => e c.symm)
    have h2 := g.2.2 u h.1 h.2.1 e
    rw [ahd_rev h1] at h2
    cases h2

theorem popV_first {A : List Int} {W : List Bool} {v : Nat} (h : First A W A.length v) : popV A W = v := by
  unfold popV
  rcases bestF_is A W A.length with ⟨_, g⟩ | ⟨u, e, g⟩
  · have := g v h.1; rw [h.2.1] at this; cases this
  · rw [e, first_one g h]

theorem popV_none {A : List Int} {W : List Bool} (h : ∀ u : Nat, u < A.length → wt W u = false) : popV A W = -1 := by
  unfold popV
  rcases bestF_is A W A.length with ⟨e, g⟩ | ⟨u, e, g⟩
  · exact e
  · have := h u g.1; rw [g.2.1] at this; cases this

theorem popA_first {A : List Int} {W : List Bool} {v : Nat} (h : First A W A.length v) : popA A W = true := by
  simp [popA, popV_first h]
theorem popA_none {A : List Int} {W : List Bool} (h : ∀ u : Nat, u < A.length → wt W u = false) : popA A W = false := by
  simp [popA, popV_none h]
theorem popW_first {A : List Int} {W : List Bool} {v : Nat} (h : First A W A.length v) : popW A W = W.set v false := by
  simp [popW, popA_first h, popV_first h]
theorem popW_none {A : List Int} {W : List Bool} (h : ∀ u : Nat, u < A.length → wt W u = false) : popW A W = W := by
  simp [popW, popA_none h]

end Go.Proofs.YtimfjoinjfecjaaGreat.Od
