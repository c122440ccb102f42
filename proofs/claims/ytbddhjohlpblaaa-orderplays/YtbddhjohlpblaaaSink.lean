/-
  sink: one that waits moves away from the front.
-/
import Derived.Test.YtbddhjohlpblaaaRise
namespace Go.Proofs.Ytbddhjohlpblaaa
open Go.RowKit
set_option linter.unusedVariables false

structure SinkRel (k : K) (w : World) (A hs : List Int) (wv : Value) (v lo : Nat) (wr : World) (hs1 : List Int) (i : Nat) : Prop where
  mv : Mv k w A hs wv v wr hs1 i
  su : Sunk (ac A) hs.length (fn hs1) lo i
  lo : lo ≤ i

def SinkEnd (k : K) (A hs : List Int) (wv : Value) (v lo : Nat) (w w' : World) : Prop :=
  ∃ hs' i', Mv k w A hs wv v w' hs' i' ∧ Heap (ac A) hs.length (fn hs') lo

theorem SinkRel.below {k : K} {w wr wq : World} {A hs hs1 : List Int} {wv : Value} {v lo i : Nat} (r : SinkRel k w A hs wv v lo wr hs1 i) (b : Below wr.heap.size wr wq) : SinkRel k w A hs wv v lo wq hs1 i :=
  ⟨r.mv.below b, r.su, r.lo⟩

theorem SinkEnd.below {k : K} {w w' wq : World} {A hs : List Int} {wv : Value} {v lo : Nat} (r : SinkEnd k A hs wv v lo w w') (b : Below w'.heap.size w' wq) : SinkEnd k A hs wv v lo w wq := by
  obtain ⟨h, i, m, r⟩ := r; exact ⟨h, i, m.below b, r⟩

/-- d is a child of i that none of its children comes ahead of. -/
def Best (A hs : List Int) (m i d : Nat) : Prop := 0 < d ∧ d < m ∧ par d = i ∧ ∀ c, 0 < c → c < m → par c = i → ahd (ac A) (fn hs c) (fn hs d) = false

theorem best_only {A hs : List Int} {m i : Nat} (h1 : 2 * i + 1 < m) (h2 : m ≤ 2 * i + 2) : Best A hs m i (2 * i + 1) :=
  ⟨by omega, h1, par_one i, fun c c0 cm cp => by rw [kid_one h2 c0 cm cp]; exact ahd_self _ _⟩
theorem best_left {A hs : List Int} {m i : Nat} (h1 : 2 * i + 1 < m) (h : ahd (ac A) (fn hs (2 * i + 2)) (fn hs (2 * i + 1)) = false) : Best A hs m i (2 * i + 1) :=
  ⟨by omega, h1, par_one i, fun c c0 cm cp => by
    rcases kid_two c0 cp with rfl | rfl
    · exact ahd_self _ _
    · exact h⟩
theorem best_right {A hs : List Int} {m i : Nat} (h1 : 2 * i + 2 < m) (h : ahd (ac A) (fn hs (2 * i + 2)) (fn hs (2 * i + 1)) = true) : Best A hs m i (2 * i + 2) :=
  ⟨by omega, h1, par_two i, fun c c0 cm cp => by
    rcases kid_two c0 cp with rfl | rfl
    · exact ahd_rev h
    · exact ahd_self _ _⟩

theorem SinkRel.leaf {k : K} {w wr : World} {A hs hs1 : List Int} {wv : Value} {v lo i : Nat} (r : SinkRel k w A hs wv v lo wr hs1 i) (h : hs.length ≤ 2 * i + 1) : SinkEnd k A hs wv v lo w wr :=
  ⟨hs1, i, r.mv, sunk_heap r.su (kids_none h)⟩

theorem SinkRel.stay {k : K} {w wr : World} {A hs hs1 : List Int} {wv : Value} {v lo i d : Nat} (r : SinkRel k w A hs wv v lo wr hs1 i) (b : Best A hs1 hs.length i d) (h : ahd (ac A) v (fn hs1 d) = true) : SinkEnd k A hs wv v lo w wr :=
  ⟨hs1, i, r.mv, sunk_heap r.su (kids_of b.2.2.2 (by rw [r.mv.at_]; exact h))⟩

theorem SinkRel.next {k : K} {w wr w' : World} {A hs hs1 : List Int} {wv : Value} {v lo i d : Nat} (r : SinkRel k w A hs wv v lo wr hs1 i) (b : Best A hs1 hs.length i d) (h : ahd (ac A) v (fn hs1 d) = false) (s : SwapEnd k A hs1 wv i d wr w') :
    ∃ hs2, SinkRel k w A hs wv v lo w' hs2 d := by
  obtain ⟨b1, b2, b3, b4⟩ := b
  have hp := par_lt b1
  have hl := r.lo
  obtain ⟨hs2, m, e⟩ := r.mv.swap b2 s
  refine ⟨hs2, m, ?_, by omega⟩
  rw [e]
  exact sink_step r.su hl b1 b2 b3 b4 (by rw [r.mv.at_]; exact h)

set_option maxHeartbeats 2000000 in
theorem sink_any {k : K} {w : World} {A hs : List Int} {wv : Value} (s : Gd k w A hs wv) (v i0 lo : Nat) (hi : i0 < hs.length) (hv : fn hs i0 = v) (b : Sunk (ac A) hs.length (fn hs) lo i0) (hlo : lo ≤ i0) :
    Calls Try.prog 25 #[.pointer (some ⟨k.OB, 0, none⟩), .int .i64 v, .func (.func 26) #[.pointer (some ⟨k.OB, 0, none⟩)] #[]] w fun e w' => e = .returned (.tuple #[]) ∧ SinkEnd k A hs wv v lo w w' := by
  have M0 : Mv k w A hs wv v w hs i0 := ⟨s, rfl, hi, hv, fun x => Iff.rfl, Fr.refl _ _ _⟩
  have hvn := M0.vn
  have hvn' : (v : Int) < k.n := by omega
  have hsm := M0.small
  have R0 : Hid (SinkRel k w A hs wv v lo w hs i0) := hid ⟨M0, b, hlo⟩
  obtain ⟨P, s, p⟩ := s
  have c2 := s.c2
  have cp := s.cp hvn
  have hpl := (p.1 i0 hi).2.2
  rw [hv, Int.toNat_natCast] at hpl
  rw [hpl] at cp
  clear s p hpl b hv M0
  go_enter Try.func25, Try.ntmps25
  go_wp2
  go_loopw [6, 7] (fun a d wr => ∃ (i j : Nat) (hs1 : List Int), a = .int .i64 i ∧ d = .int .i64 j ∧ Hid (j = 2 * i + 1) ∧ i < hs.length ∧ Hid (SinkRel k w A hs wv v lo wr hs1 i)) (fun a _ _ => hs.length - (intOf a).toNat)
  case atStart => exact ⟨i0, 2 * i0 + 1, hs, by simp, by simp, rfl, hi, R0⟩
  case round =>
    clear c2 cp R0
    obtain ⟨i, j, hs1, rfl, rfl, hj, hil, hr⟩ := hrel
    by_cases h1 : j < hs.length
    · obtain ⟨g, cap, rfl, u, hu, hun, c1, cu⟩ := hr.out.mv.look h1
      have h1' : (j : Int) < hs.length := by omega
      have hlt : i < j := by have := hj.out; omega
      have hl1 : j < hs1.length := by rw [hr.out.mv.len]; exact h1
      have hl2 : i < hs1.length := by rw [hr.out.mv.len]; exact hil
      have HG := hid hr.out.mv.gd
      by_cases h2 : j + 1 < hs.length
      · obtain ⟨g2, cap2, e2, u2, hu2, hun2, _, cu2⟩ := hr.out.mv.look h2
        cases e2
        have h2' : (j : Int) + 1 < hs.length := by omega
        have hl3 : j + 1 < hs1.length := by rw [hr.out.mv.len]; exact h2
        cases ha : ahd (ac A) u2 u
        · have HB : Hid (Best A hs1 hs.length i (j)) := hid (by
            have := hj.out; subst this
            exact best_left h1 (by rw [hu, hu2]; exact ha))
          cases hb : ahd (ac A) v u
          · have HC : Hid (ahd (ac A) v (fn hs1 (j)) = false) := hid (by rw [hu]; exact hb)
            clear hu hu2
            go_wp2
            go_quiet ((go_at_call 26; refine Calls.quiet_of (ahead_gd (HG.out.drewN _) _ _ hun2 hun)))
            go_wp2_with (first
              | (go_at_call 26; with_reducible (refine (ahead_gd (HG.out.drewN _) v u hvn hun).mono ?_); rintro e w1 ⟨rfl, m, rfl⟩; have hr1 := hid (hr.out.below (below_drewN' wr (nq + m))))
              | (go_at_call 24; with_reducible (refine (swap_at hr1.out.mv.gd (i := i) (j := j) rfl (by simp) hl2 hl1).mono ?_); rintro e w2 ⟨rfl, hs2⟩))
            go_roundw
            case rel =>
              obtain ⟨hs3, r3⟩ := hr1.out.next HB.out HC.out hs2
              exact ⟨j, 2 * (j) + 1, hs3, by simp, by simp, rfl, by omega, r3⟩
            case measure => simp only [intOf]; omega
          · have HC : Hid (ahd (ac A) v (fn hs1 (j)) = true) := hid (by rw [hu]; exact hb)
            have HD := hid (hr.out.stay HB.out HC.out)
            clear hu hu2
            go_wp2
            go_quiet ((go_at_call 26; refine Calls.quiet_of (ahead_gd (HG.out.drewN _) _ _ hun2 hun)))
            go_wp2_with (go_at_call 26; with_reducible (refine (ahead_gd (HG.out.drewN _) v u hvn hun).mono ?_); rintro e w1 ⟨rfl, m, rfl⟩)
            refine bodyPost_ret (results_none rfl _ _ _) rfl ?_
            exact ⟨rfl, HD.out.below (below_drewN' _ _)⟩
        · have HB : Hid (Best A hs1 hs.length i (j + 1)) := hid (by
            have := hj.out; subst this
            exact best_right (by omega) (by rw [hu, hu2]; exact ha))
          cases hb : ahd (ac A) v u2
          · have HC : Hid (ahd (ac A) v (fn hs1 (j + 1)) = false) := hid (by rw [hu2]; exact hb)
            clear hu hu2
            go_wp2
            go_quiet ((go_at_call 26; refine Calls.quiet_of (ahead_gd (HG.out.drewN _) _ _ hun2 hun)))
            go_wp2_with (first
              | (go_at_call 26; with_reducible (refine (ahead_gd (HG.out.drewN _) v u2 hvn hun2).mono ?_); rintro e w1 ⟨rfl, m, rfl⟩; have hr1 := hid (hr.out.below (below_drewN' wr (nq + m))))
              | (go_at_call 24; with_reducible (refine (swap_at hr1.out.mv.gd (i := i) (j := j + 1) rfl (by simp) hl2 hl3).mono ?_); rintro e w2 ⟨rfl, hs2⟩))
            go_roundw
            case rel =>
              obtain ⟨hs3, r3⟩ := hr1.out.next HB.out HC.out hs2
              exact ⟨j + 1, 2 * (j + 1) + 1, hs3, by simp, by simp, rfl, by omega, r3⟩
            case measure => simp only [intOf]; omega
          · have HC : Hid (ahd (ac A) v (fn hs1 (j + 1)) = true) := hid (by rw [hu2]; exact hb)
            have HD := hid (hr.out.stay HB.out HC.out)
            clear hu hu2
            go_wp2
            go_quiet ((go_at_call 26; refine Calls.quiet_of (ahead_gd (HG.out.drewN _) _ _ hun2 hun)))
            go_wp2_with (go_at_call 26; with_reducible (refine (ahead_gd (HG.out.drewN _) v u2 hvn hun2).mono ?_); rintro e w1 ⟨rfl, m, rfl⟩)
            refine bodyPost_ret (results_none rfl _ _ _) rfl ?_
            exact ⟨rfl, HD.out.below (below_drewN' _ _)⟩
      · have h2d : decide ((j : Int) + 1 < hs.length) = false := by simp; omega
        have HB : Hid (Best A hs1 hs.length i (j)) := hid (by
          have := hj.out; subst this
          exact best_only h1 (by omega))
        cases hb : ahd (ac A) v u
        · have HC : Hid (ahd (ac A) v (fn hs1 (j)) = false) := hid (by rw [hu]; exact hb)
          clear hu
          go_wp2
          go_quiet (fail)
          go_wp2_with (first
            | (go_at_call 26; with_reducible (refine (ahead_gd (HG.out.drewN _) v u hvn hun).mono ?_); rintro e w1 ⟨rfl, m, rfl⟩; have hr1 := hid (hr.out.below (below_drewN' wr (nq + m))))
            | (go_at_call 24; with_reducible (refine (swap_at hr1.out.mv.gd (i := i) (j := j) rfl (by simp) hl2 hl1).mono ?_); rintro e w2 ⟨rfl, hs2⟩))
          go_roundw
          case rel =>
            obtain ⟨hs3, r3⟩ := hr1.out.next HB.out HC.out hs2
            exact ⟨j, 2 * (j) + 1, hs3, by simp, by simp, rfl, by omega, r3⟩
          case measure => simp only [intOf]; omega
        · have HC : Hid (ahd (ac A) v (fn hs1 (j)) = true) := hid (by rw [hu]; exact hb)
          have HD := hid (hr.out.stay HB.out HC.out)
          clear hu
          go_wp2
          go_quiet (fail)
          go_wp2_with (go_at_call 26; with_reducible (refine (ahead_gd (HG.out.drewN _) v u hvn hun).mono ?_); rintro e w1 ⟨rfl, m, rfl⟩)
          refine bodyPost_ret (results_none rfl _ _ _) rfl ?_
          exact ⟨rfl, HD.out.below (below_drewN' _ _)⟩
    · have HD := hid (hr.out.leaf (by have := hj.out; omega))
      obtain ⟨ao, cap, rfl, c1⟩ : ∃ ao cap, wv = .slice ao hs.length cap ∧ wr.cell? ⟨k.OB, 1, none⟩ = some wv := by
        obtain ⟨P, s, _⟩ := hr.out.mv.gd
        obtain ⟨ao, cap, e⟩ := s.shape
        exact ⟨ao, cap, by rw [← hr.out.mv.len]; exact e, s.c1⟩
      go_wp2
      go_end0
      exact ⟨rfl, HD.out⟩

end Go.Proofs.Ytbddhjohlpblaaa
