/-
  Bump: one has more activity, or less. Halve: each has half.
-/
import Derived.Test.YtbddhjohlpblaaaPop
namespace Go.Proofs.Ytbddhjohlpblaaa
open Go.RowKit
set_option linter.unusedVariables false

def BumpEnd (k : K) (A : List Int) (W : List Bool) (wv : Value) (v d : Int) (w w' : World) : Prop := Ord k w' (bumpF A v d) W wv ∧ Fr k wv wv w w'

theorem fn_bd {A : List Int} {n v : Nat} {x : Int} (h : ∀ u : Nat, u < n → 0 ≤ fn A u ∧ fn A u ≤ 1099511627776) (hv : v < A.length) (hx : 0 ≤ x ∧ x ≤ 1099511627776) : ∀ u : Nat, u < n → 0 ≤ fn (A.set v x) u ∧ fn (A.set v x) u ≤ 1099511627776 := by
  intro u hu
  rw [fn_set hv]
  by_cases e : u = v
  · rw [if_pos e]; exact hx
  · rw [if_neg e]; exact h u hu

theorem ac_other {A : List Int} {v : Nat} (hv : v < A.length) (x : Int) (u : Int) (h0 : 0 ≤ u) (h : u ≠ v) : ac (A.set v x) u = ac A u := by
  unfold ac
  rw [fn_set hv, if_neg (by omega)]

/-- The one whose activity has turned waits. -/
theorem bump_broken {k : K} {w : World} {A hs P : List Int} {wv : Value} {v i : Nat} {x : Int} (s : Raw k w A hs P wv) (p : Pl k.n hs.length (fn hs) (fn P)) (hp : Heap (ac A) hs.length (fn hs) 0) (hi : i < hs.length) (hv : fn hs i = v) : Broken (ac (A.set v x)) hs.length (fn hs) i := by
  have h1 := p.1 i hi
  have hva : v < A.length := by rw [s.la]; omega
  have hb : Broken (fun u => if 0 ≤ u then ac (A.set v x) u else ac A u) hs.length (fn hs) i := bumped hp hi p.inj fun u hu => by
    by_cases c : 0 ≤ u
    · simp only [c, if_true]; exact ac_other hva x u c (by omega)
    · simp only [c, if_false]
  have same : ∀ a b, a < hs.length → b < hs.length → ahd (fun u => if 0 ≤ u then ac (A.set v x) u else ac A u) (fn hs a) (fn hs b) = ahd (ac (A.set v x)) (fn hs a) (fn hs b) := by
    intro a b ha hb
    simp only [ahd, (p.1 a ha).1, (p.1 b hb).1, if_true]
  refine ⟨fun c c0 cm c1 c2 => ?_, fun c c0 cm c1 i0 => ?_⟩
  · have := par_lt c0
    rw [← same c _ cm (by omega)]; exact hb.1 c c0 cm c1 c2
  · have := par_lt i0
    rw [← same c _ cm (by omega)]; exact hb.2 c c0 cm c1 i0

/-- The one whose activity has turned does not wait. -/
theorem bump_heap {k : K} {w : World} {A hs P : List Int} {wv : Value} {v : Nat} {x : Int} (s : Raw k w A hs P wv) (p : Pl k.n hs.length (fn hs) (fn P)) (hp : Heap (ac A) hs.length (fn hs) 0) (hv : v < k.n) (hn : ¬ In hs.length (fn hs) v) : Heap (ac (A.set v x)) hs.length (fn hs) 0 := by
  have hva : v < A.length := by rw [s.la]; exact hv
  have e : ∀ c, c < hs.length → ac (A.set v x) (fn hs c) = ac A (fn hs c) := fun c hc => ac_other hva x _ (p.1 c hc).1 (fun q => hn ⟨c, hc, q⟩)
  intro c c0 cm cl
  have := par_lt c0
  have h1 := hp c c0 cm cl
  simp only [ahd, e c cm, e (par c) (by omega)] at h1 ⊢
  exact h1

theorem bump_none (v d : Int) (w : World) : Calls Try.prog 18 #[.pointer none, .int .i64 v, .int .i64 d] w fun e w' => e = .returned (.bool false) ∧ w' = w := by
  go_enter Try.func18, Try.ntmps18
  go_wp2_with (go_at_call 23; with_reducible (refine (is_none _ _).mono ?_); rintro e w ⟨rfl, rfl⟩)
  go_ret
  exact ⟨rfl, rfl⟩

/-- What the activity is that is written. -/
theorem act_fit {n : Nat} {A hs : List Int} {W : List Bool} (g : Good n A W hs) {v : Nat} (hv : v < n) (d : Int) : 0 ≤ sumF (fn A v) d ∧ sumF (fn A v) d ≤ 1099511627776 := sumF_in (g.bd v hv).1 (g.bd v hv).2

theorem RiseEnd.out {k : K} {A hs : List Int} {wv : Value} {v i0 : Nat} {w w' : World} (h : RiseEnd k A hs wv v i0 w w') :
    ∃ hs' i', Hid (Mv k w A hs wv v w' hs' i') ∧ Hid (Sunk (ac A) hs'.length (fn hs') 0 i') := by
  obtain ⟨hs', i', m, s, _⟩ := h
  exact ⟨hs', i', m, by show Sunk _ _ _ _ _; rw [m.len]; exact s⟩

theorem Mv.lt' {k : K} {w wr : World} {A hs hs1 : List Int} {wv : Value} {v i : Nat} (r : Mv k w A hs wv v wr hs1 i) : i < hs1.length := by rw [r.len]; exact r.lt

theorem bump_end {k : K} {w w3 w5 w7 : World} {A A2 hs hs5 : List Int} {W : List Bool} {wv : Value} {v i5 : Nat} {d : Int} (hb : bumpF A v d = A2) (g : Good k.n A W hs) (bd : ∀ u : Nat, u < k.n → 0 ≤ fn A2 u ∧ fn A2 u ≤ 1099511627776) (f : Fr k wv wv w w3)
    (m5 : Mv k w3 A2 hs wv v w5 hs5 i5) (h7 : SinkEnd k A2 hs5 wv v 0 w5 w7) : BumpEnd k A W wv v d w w7 := by
  obtain ⟨hs7, i7, m7, hp⟩ := h7
  have l7 := m7.len
  have l5 := m5.len
  refine ⟨?_, (f.trans m5.fr).trans m7.fr⟩
  rw [hb]
  refine ⟨hs7, m7.gd, by rw [l7]; exact hp, g.same (by omega) (fun x => ?_) bd⟩
  have := m7.same x
  rw [l5] at this
  rw [this, m5.same x]

set_option maxHeartbeats 4000000 in
theorem bump_any {k : K} {w : World} {A : List Int} {W : List Bool} {wv : Value} (s : Ord k w A W wv) (v d : Int) :
    Calls Try.prog 18 #[.pointer (some ⟨k.OB, 0, none⟩), .int .i64 v, .int .i64 d] w fun e w' => e = .returned (.bool (isF k.n v)) ∧ BumpEnd k A W wv v d w w' := by
  obtain ⟨hs, ⟨P, s1, p⟩, hp, g⟩ := id s
  cases hi : isF k.n v
  · have HE : Hid (BumpEnd k A W wv v d w w) := hid ⟨by rw [bumpF, s1.la, hi]; exact s, Fr.refl _ _ _⟩
    have HS := hid s1
    clear s s1 p hp g
    go_enter Try.func18, Try.ntmps18
    go_wp2_with (go_at_call 23; with_reducible (refine (is_any HS.out _).mono ?_); rintro e w ⟨rfl, rfl⟩)
    go_ret
    exact ⟨rfl, HE.out⟩
  · obtain ⟨v, rfl, hv⟩ := isF_yes hi
    have hv' : (v : Int) < k.n := by omega
    have c0 := s1.c0
    have ca := s1.ca hv
    have caf := s1.caf v
    have b1 := g.bd v hv
    have hva : v < A.length := by rw [s1.la]; exact hv
    have HX := hid (act_fit g hv d)
    have HB : Hid (bumpF A v d = A.set v (sumF (fn A v) d)) := hid (by simp only [bumpF, s1.la, hi, if_true]; rfl)
    have r2 := hid (s1.puta v (sumF (fn A v) d))
    have F2 : Hid (Fr k wv wv w (w.setCell ⟨k.AB, v, none⟩ (.int .i64 (sumF (fn A v) d)))) := hid (Fr.grown (grown_set w _ _) (fun q hq => by cases hq; exact .inl rfl))
    have HG := hid g
    have HP := hid p
    have HS := hid s1
    cases hw : wt W v
    · have hni : ¬ In hs.length (fn hs) v := fun c => by rw [(g.wr v hv).2 c] at hw; cases hw
      have h0 : fn P v = 0 := pl_out p hv hni
      have HH := hid (bump_heap (x := sumF (fn A v) d) s1 p hp hv hni)
      have e1 := r2.out.drew.c2
      have e2 := r2.out.drew.cp hv
      rw [h0] at e2
      clear s s1 p hp g hni h0
      go_enter Try.func18, Try.ntmps18
      go_wp2_with (go_at_call 23; with_reducible (refine (is_any HS.out _).mono ?_); rintro e w ⟨rfl, rfl⟩)
      go_region_with (go_at_call 28; with_reducible (refine (sum_any _ _ b1.1 b1.2 _).mono ?_); rintro e w1 ⟨rfl, rfl⟩)
      all_goals go_wp2
      all_goals go_ret
      all_goals exact ⟨rfl, by rw [HB.out]; exact ⟨hs, ⟨P, r2.out.drew, HP.out⟩, HH.out, HG.out.same rfl (fun _ => Iff.rfl) (fn_bd HG.out.bd hva HX.out)⟩, F2.out.trans (Fr.drew _ _ _)⟩
    · obtain ⟨i, hil, hiv⟩ := (g.wr v hv).1 hw
      have h0 : 0 < fn P v := (pl_in p hv).1 ⟨i, hil, hiv⟩
      have HH := hid (bump_broken (x := sumF (fn A v) d) s1 p hp hil hiv)
      have e1 := r2.out.drew.c2
      have e2 := r2.out.drew.cp hv
      have HIV := hid hiv
      have g2 : Hid (Gd k (w.setCell ⟨k.AB, v, none⟩ (.int .i64 (sumF (fn A v) d))).drew (A.set v (sumF (fn A v) d)) hs wv) := hid ⟨P, r2.out.drew, p⟩
      clear s s1 p hp g hiv
      go_enter Try.func18, Try.ntmps18
      go_wp2_with (go_at_call 23; with_reducible (refine (is_any HS.out _).mono ?_); rintro e w ⟨rfl, rfl⟩)
      go_region_with (go_at_call 28; with_reducible (refine (sum_any _ _ b1.1 b1.2 _).mono ?_); rintro e w1 ⟨rfl, rfl⟩)
      all_goals go_wp2_with (first
        | (go_at_call 27; with_reducible (refine (rise_any g2.out v i hil HIV.out HH.out).mono ?_); rintro e w5 ⟨rfl, h5⟩; have h6 := h5.out; obtain ⟨hs5, i5, m5, s5⟩ := h6; clear h5)
        | (go_at_call 25; with_reducible (refine (sink_any m5.out.gd v i5 0 m5.out.lt' m5.out.at_ s5.out (Nat.zero_le _)).mono ?_); rintro e w7 ⟨rfl, h7⟩))
      all_goals go_ret
      all_goals exact ⟨rfl, bump_end HB.out HG.out (fn_bd HG.out.bd hva HX.out) (F2.out.trans (Fr.drew _ _ _)) m5.out h7⟩

end Go.Proofs.Ytbddhjohlpblaaa
