/-
  rise: one that waits moves towards the front.
-/
import Derived.Test.YtbddhjohlpblaaaSwap
namespace Go.Proofs.Ytbddhjohlpblaaa
open Go.RowKit
set_option linter.unusedVariables false

theorem Gd.below {k : K} {w w' : World} {A hs : List Int} {wv : Value} (s : Gd k w A hs wv) (b : Below w.heap.size w w') : Gd k w' A hs wv := by
  obtain ⟨P, s, p⟩ := s; exact ⟨P, s.below b, p⟩
theorem below_drewN' (w : World) (m : Nat) : Below w.heap.size w (w.drewN m) := ⟨rfl, rfl, rfl, Nat.le_refl _, fun _ _ => rfl⟩
theorem Gd.drewN {k : K} {w : World} {A hs : List Int} {wv : Value} (s : Gd k w A hs wv) (m : Nat) : Gd k (w.drewN m) A hs wv := s.below (below_drewN' w m)

/-- What is so between the rounds: one at i moves, all else has been so at w. -/
structure Mv (k : K) (w : World) (A hs : List Int) (wv : Value) (v : Nat) (wr : World) (hs1 : List Int) (i : Nat) : Prop where
  gd : Gd k wr A hs1 wv
  len : hs1.length = hs.length
  lt : i < hs.length
  at_ : fn hs1 i = v
  same : ∀ x, In hs.length (fn hs1) x ↔ In hs.length (fn hs) x
  fr : Fr k wv wv w wr

structure RiseRel (k : K) (w : World) (A hs : List Int) (wv : Value) (v i0 : Nat) (wr : World) (hs1 : List Int) (i : Nat) : Prop where
  mv : Mv k w A hs wv v wr hs1 i
  br : Broken (ac A) hs.length (fn hs1) i
  kids : Kids (ac A) hs.length (fn hs) i0 → Kids (ac A) hs.length (fn hs1) i

def RiseEnd (k : K) (A hs : List Int) (wv : Value) (v i0 : Nat) (w w' : World) : Prop :=
  ∃ hs' i', Mv k w A hs wv v w' hs' i' ∧ Sunk (ac A) hs.length (fn hs') 0 i' ∧ (Kids (ac A) hs.length (fn hs) i0 → Heap (ac A) hs.length (fn hs') 0)

theorem RiseRel.done {k : K} {w wr : World} {A hs hs1 : List Int} {wv : Value} {v i0 i : Nat} (r : RiseRel k w A hs wv v i0 wr hs1 i) (h : i = 0 ∨ ahd (ac A) (fn hs1 i) (fn hs1 (par i)) = false) : RiseEnd k A hs wv v i0 w wr := by
  have s := rise_end r.br h
  exact ⟨hs1, i, r.mv, s, fun c => sunk_heap s (r.kids c)⟩

theorem Mv.below {k : K} {w wr wq : World} {A hs hs1 : List Int} {wv : Value} {v i : Nat} (r : Mv k w A hs wv v wr hs1 i) (b : Below wr.heap.size wr wq) : Mv k w A hs wv v wq hs1 i :=
  ⟨r.gd.below b, r.len, r.lt, r.at_, r.same, r.fr.trans (Fr.below b)⟩

theorem Mv.swap {k : K} {w wr w' : World} {A hs hs1 : List Int} {wv : Value} {v i j : Nat} (r : Mv k w A hs wv v wr hs1 i) (hj : j < hs.length) (s : SwapEnd k A hs1 wv i j wr w') : ∃ hs2, Mv k w A hs wv v w' hs2 j ∧ fn hs2 = sw (fn hs1) i j := by
  obtain ⟨hs2, g, l, e, f⟩ := s
  refine ⟨hs2, ⟨g, l.trans r.len, hj, ?_, fun x => ?_, r.fr.trans f⟩, e⟩
  · rw [e, sw_r]; exact r.at_
  · rw [e, in_sw r.lt hj]; exact r.same x

theorem RiseEnd.below {k : K} {w w' wq : World} {A hs : List Int} {wv : Value} {v i0 : Nat} (r : RiseEnd k A hs wv v i0 w w') (b : Below w'.heap.size w' wq) : RiseEnd k A hs wv v i0 w wq := by
  obtain ⟨h, i, m, r⟩ := r; exact ⟨h, i, m.below b, r⟩

theorem swap_at {k : K} {w : World} {A hs : List Int} {wv : Value} (s : Gd k w A hs wv) {i j : Nat} {x y : Int} (hx : x = i) (hy : y = j) (hi : i < hs.length) (hj : j < hs.length) :
    Calls Try.prog 24 #[.pointer (some ⟨k.OB, 0, none⟩), .int .i64 x, .int .i64 y] w fun e w' => e = .returned (.tuple #[]) ∧ SwapEnd k A hs wv i j w w' := by
  subst hx hy
  exact swap_any s i j hi hj

theorem RiseRel.next {k : K} {w wr w' : World} {A hs hs1 : List Int} {wv : Value} {v i0 i : Nat} (r : RiseRel k w A hs wv v i0 wr hs1 i) (i0' : 0 < i) (h : ahd (ac A) (fn hs1 i) (fn hs1 (par i)) = true) (s : SwapEnd k A hs1 wv i (par i) wr w') :
    ∃ hs2, RiseRel k w A hs wv v i0 w' hs2 (par i) := by
  have hp := par_lt i0'
  have hl := r.mv.lt
  obtain ⟨hs2, m, e⟩ := r.mv.swap (j := par i) (by omega) s
  exact ⟨hs2, m, by rw [e]; exact broken_step r.br i0' hl, fun _ => by rw [e]; exact kids_step r.br i0' h⟩

theorem RiseRel.below {k : K} {w wr wq : World} {A hs hs1 : List Int} {wv : Value} {v i0 i : Nat} (r : RiseRel k w A hs wv v i0 wr hs1 i) (b : Below wr.heap.size wr wq) : RiseRel k w A hs wv v i0 wq hs1 i :=
  ⟨r.mv.below b, r.br, r.kids⟩

/-- Where the one at i lies, and whom it is held against. -/
theorem Mv.look {k : K} {w wr : World} {A hs hs1 : List Int} {wv : Value} {v i : Nat} (r : Mv k w A hs wv v wr hs1 i) {j : Nat} (hj : j < hs.length) : ∃ g cap, wv = .slice (some ⟨g, 0, none⟩) hs.length cap ∧
    ∃ u : Nat, fn hs1 j = u ∧ u < k.n ∧ wr.cell? ⟨k.OB, 1, none⟩ = some wv ∧ wr.cell? ⟨g, j, none⟩ = some (.int .i64 u) := by
  obtain ⟨P, s, p⟩ := r.gd
  have hl := r.len
  obtain ⟨g, cap, e⟩ := s.filled (by omega)
  rw [hl] at e
  have h1 := p.1 j (by omega)
  refine ⟨g, cap, e, (fn hs1 j).toNat, by omega, by omega, s.c1, ?_⟩
  subst e
  rw [s.ch hl.symm hj]
  congr 2
  omega

theorem Mv.vn {k : K} {w wr : World} {A hs hs1 : List Int} {wv : Value} {v i : Nat} (r : Mv k w A hs wv v wr hs1 i) : v < k.n := by
  obtain ⟨P, s, p⟩ := r.gd
  have hl := r.len
  have hi := r.lt
  have h1 := p.1 i (by omega)
  have := r.at_
  omega

theorem Mv.small {k : K} {w wr : World} {A hs hs1 : List Int} {wv : Value} {v i : Nat} (r : Mv k w A hs wv v wr hs1 i) : hs.length ≤ 1048576 := by
  obtain ⟨P, s, p⟩ := r.gd
  have := p.len
  have := s.hn
  have := r.len
  omega

/-- ahead, as the method value calls it. -/
theorem ahead_gd {k : K} {w : World} {A hs : List Int} {wv : Value} (s : Gd k w A hs wv) (v u : Nat) (hv : v < k.n) (hu : u < k.n) :
    Calls Try.prog 26 #[.pointer (some ⟨k.OB, 0, none⟩), .int .i64 v, .int .i64 u] w fun e w' => e = .returned (.bool (ahd (ac A) v u)) ∧ ∃ m, w' = w.drewN m := by
  obtain ⟨P, s, p⟩ := s
  exact ahead_any s v u hv hu

set_option maxHeartbeats 1000000 in
theorem rise_any {k : K} {w : World} {A hs : List Int} {wv : Value} (s : Gd k w A hs wv) (v i0 : Nat) (hi : i0 < hs.length) (hv : fn hs i0 = v) (b : Broken (ac A) hs.length (fn hs) i0) :
    Calls Try.prog 27 #[.pointer (some ⟨k.OB, 0, none⟩), .int .i64 v, .func (.func 26) #[.pointer (some ⟨k.OB, 0, none⟩)] #[]] w fun e w' => e = .returned (.tuple #[]) ∧ RiseEnd k A hs wv v i0 w w' := by
  have M0 : Mv k w A hs wv v w hs i0 := ⟨s, rfl, hi, hv, fun x => Iff.rfl, Fr.refl _ _ _⟩
  have hvn := M0.vn
  have hvn' : (v : Int) < k.n := by omega
  have hsm := M0.small
  have R0 : Hid (RiseRel k w A hs wv v i0 w hs i0) := hid ⟨M0, b, fun c => c⟩
  obtain ⟨P, s, p⟩ := s
  have c2 := s.c2
  have cp := s.cp hvn
  have hpl := (p.1 i0 hi).2.2
  rw [hv, Int.toNat_natCast] at hpl
  rw [hpl] at cp
  clear s p hpl b hv M0
  go_enter Try.func27, Try.ntmps27
  go_wp2
  go_loopw [6] (fun a wr => ∃ (i : Nat) (hs1 : List Int), a = .int .i64 i ∧ i < hs.length ∧ Hid (RiseRel k w A hs wv v i0 wr hs1 i)) (fun a _ => (intOf a).toNat)
  case atStart => exact ⟨i0, hs, by simp, hi, R0⟩
  case round =>
    clear c2 cp R0
    obtain ⟨i, hs1, rfl, hil, hr⟩ := hrel
    rcases i with _ | i
    · go_wp2
      go_end0
      exact ⟨rfl, hr.out.done (.inl rfl)⟩
    · have hpar : par (i + 1) = i / 2 := by unfold par; omega
      obtain ⟨g, cap, rfl, u, hu, hun, c1, cu⟩ := hr.out.mv.look (j := i / 2) (by omega)
      have ha : ahd (ac A) v u = ahd (ac A) (fn hs1 (i + 1)) (fn hs1 (par (i + 1))) := by rw [hpar, hu, hr.out.mv.at_]
      have HG := hid hr.out.mv.gd
      cases hc : ahd (ac A) v u
      · have HD := hid (hr.out.done (.inr (by rw [← ha]; exact hc)))
        clear hu ha hpar
        go_wp2_with (go_at_call 26; with_reducible (refine (ahead_gd HG.out v u hvn hun).mono ?_); rintro e w1 ⟨rfl, m, rfl⟩)
        refine bodyPost_ret (results_none rfl _ _ _) rfl ?_
        exact ⟨rfl, HD.out.below (below_drewN' _ _)⟩
      · have HC : Hid (ahd (ac A) (fn hs1 (i + 1)) (fn hs1 (par (i + 1))) = true) := hid (by rw [← ha]; exact hc)
        have HPA := hid hpar
        clear hu ha hpar
        go_wp2_with (first
          | (go_at_call 26; with_reducible (refine (ahead_gd HG.out v u hvn hun).mono ?_); rintro e w1 ⟨rfl, m, rfl⟩; have hr1 := hid (hr.out.below (below_drewN' _ m)))
          | (go_at_call 24; with_reducible (refine (swap_at hr1.out.mv.gd (i := i + 1) (j := i / 2) (by simp) (by simp) (by rw [hr1.out.mv.len]; omega) (by rw [hr1.out.mv.len]; omega)).mono ?_); rintro e w2 ⟨rfl, hs2⟩))
        go_roundw
        case rel =>
          rw [← HPA.out] at hs2
          obtain ⟨hs3, r3⟩ := hr1.out.next (by omega) HC.out hs2
          rw [HPA.out] at r3
          exact ⟨i / 2, hs3, by simp, by omega, r3⟩
        case measure => simp only [intOf]; omega

end Go.Proofs.Ytbddhjohlpblaaa
