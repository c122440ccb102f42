/-
  Pop: the first of those that wait is taken.
-/
import Derived.Test.YtbddhjohlpblaaaPush
namespace Go.Proofs.Ytbddhjohlpblaaa
open Go.RowKit
set_option linter.unusedVariables false

theorem grown_same (w : World) (r : Option Nat) : w.grownBy w r := ⟨rfl, rfl, rfl, Nat.le_refl _, fun _ _ _ => rfl⟩

theorem Raw.cut {k : K} {w : World} {A hs P : List Int} {g l cap m : Nat} (s : Raw k w A hs P (.slice (some ⟨g, 0, none⟩) l cap)) (hl : l = hs.length) (hm : m ≤ l) :
    Raw k (w.setCell ⟨k.OB, 1, none⟩ (.slice (some ⟨g, 0, none⟩) m cap)) A (hs.take m) P (.slice (some ⟨g, 0, none⟩) m cap) := by
  subst hl
  have e : (hs.take m).length = m := by rw [List.length_take]; omega
  refine (s.putv (grown_same w _) (wv' := .slice (some ⟨g, 0, none⟩) m cap) (hs' := hs.take m) ?_).2
  rw [e, List.map_take]
  exact own_cut s.wt hm

theorem Fr.cut {k : K} {w : World} {g l cap m : Nat} : Fr k (.slice (some ⟨g, 0, none⟩) l cap) (.slice (some ⟨g, 0, none⟩) m cap) w (w.setCell ⟨k.OB, 1, none⟩ (.slice (some ⟨g, 0, none⟩) m cap)) := by
  have g2 := grown_set w ⟨k.OB, 1, none⟩ (.slice (some ⟨g, 0, none⟩) m cap)
  exact ⟨g2.os, g2.tape, g2.output, g2.size, fun j hj hm => set_other _ (fun c => hm (.inr (.inr (.inl c)))), fun j hj => .inl hj⟩

theorem fn_take {l : List Int} {m i : Nat} (h : i < m) : fn (l.take m) i = fn l i := by simp [fn, h]

theorem sunk_congr {a : Int → Int} {m : Nat} {h h' : Nat → Int} {lo i : Nat} (s : Sunk a m h lo i) (e : ∀ c, c < m → h' c = h c) : Sunk a m h' lo i := by
  refine ⟨fun c c0 cm cl c1 => ?_, fun c c0 cm c1 i0 hl => ?_⟩
  · have := par_lt c0
    rw [e c cm, e _ (by omega)]
    exact s.1 c c0 cm cl c1
  · have := par_lt c0
    have := par_lt i0
    rw [e c cm, e _ (by omega)]
    exact s.2 c c0 cm c1 i0 hl

theorem top_first {k : K} {w : World} {A hs : List Int} {W : List Bool} {wv : Value} {x : Nat} (s : Gd k w A hs wv) (hp : Heap (ac A) hs.length (fn hs) 0) (g : Good k.n A W hs) (h0 : 0 < hs.length) (hx : fn hs 0 = x) : First A W A.length x := by
  obtain ⟨P, s, p⟩ := s
  have h1 := p.1 0 h0
  rw [hx] at h1
  rw [s.la]
  refine ⟨by omega, (g.wr x (by omega)).2 ⟨0, h0, hx⟩, fun u hu hw hne => ?_⟩
  obtain ⟨i, hi, e⟩ := (g.wr u hu).1 hw
  have := heap_top hp i hi
  rw [e, hx, ahd_no] at this
  rw [ahd_yes]
  omega

theorem none_waits {k : K} {w : World} {A hs : List Int} {W : List Bool} {wv : Value} (s : Gd k w A hs wv) (g : Good k.n A W hs) (h0 : hs.length = 0) : ∀ u : Nat, u < A.length → wt W u = false := by
  obtain ⟨P, s, p⟩ := s
  intro u hu
  rw [s.la] at hu
  cases h : wt W u
  · rfl
  · obtain ⟨i, hi, _⟩ := (g.wr u hu).1 h
    omega

def PopEnd (k : K) (A : List Int) (W : List Bool) (wv : Value) (w w' : World) : Prop := ∃ wv', Ord k w' A (popW A W) wv' ∧ Fr k wv wv' w w'

/-- Those that are left. -/
theorem left_in {hs hs1 : List Int} {m x : Nat} (hl : hs.length = m + 1) (e : fn hs1 = sw (fn hs) 0 m) (hx : fn hs 0 = x) (inj : ∀ i j, i < m + 1 → j < m + 1 → fn hs i = fn hs j → i = j) (y : Int) :
    In m (fn (hs1.take m)) y ↔ In hs.length (fn hs) y ∧ y ≠ x := by
  rw [hl]
  constructor
  · rintro ⟨i, hi, rfl⟩
    rw [fn_take hi, e]
    by_cases c : i = 0
    · subst c
      rw [sw_l]
      refine ⟨⟨m, by omega, rfl⟩, fun q => ?_⟩
      have := inj m 0 (by omega) (by omega) (by rw [q, hx])
      omega
    · rw [sw_o _ c (by omega)]
      refine ⟨⟨i, by omega, rfl⟩, fun q => c (inj i 0 (by omega) (by omega) (by rw [q, hx]))⟩
  · rintro ⟨⟨i, hi, rfl⟩, hne⟩
    by_cases c : i = m
    · subst c
      have h0 : 0 < i := by
        rcases Nat.eq_zero_or_pos i with q | q
        · subst q; exact absurd hx hne
        · exact q
      exact ⟨0, h0, by rw [fn_take h0, e, sw_l]⟩
    · have h0 : i ≠ 0 := fun q => by subst q; exact hne hx
      exact ⟨i, by omega, by rw [fn_take (by omega), e, sw_o _ h0 c]⟩

/-- Behind the swap, the cut and the place that is struck. -/
theorem pop_ready {k : K} {w : World} {A hs1 P1 : List Int} {g cap m x : Nat} (s : Raw k w A hs1 P1 (.slice (some ⟨g, 0, none⟩) (m + 1) cap)) (hl : hs1.length = m + 1) (p : Pl k.n (m + 1) (fn hs1) (fn P1)) (hm : fn hs1 m = x) :
    Gd k ((w.setCell ⟨k.OB, 1, none⟩ (.slice (some ⟨g, 0, none⟩) m cap)).setCell ⟨k.PB, x, none⟩ (.int .i64 0)) A (hs1.take m) (.slice (some ⟨g, 0, none⟩) m cap) := by
  have hx := p.1 m (by omega)
  rw [hm] at hx
  have s1 := s.cut (m := m) hl.symm (by omega)
  have hxl : x < P1.length := by rw [s.lp]; omega
  refine ⟨_, s1.putp x 0, ?_⟩
  have e : (hs1.take m).length = m := by rw [List.length_take]; omega
  rw [e]
  refine pl_pop p hm (fun i hi => fn_take hi) ?_ (fun u hu => ?_)
  · rw [fn_set hxl, if_pos rfl]
  · rw [fn_set hxl, if_neg hu]

theorem pop_none (w : World) : Calls Try.prog 15 #[.pointer none] w fun e w' => e = .returned (.tuple #[.int .i64 (-1), .bool false]) ∧ w' = w := by
  go_enter Try.func15, Try.ntmps15
  go_wp2_with (go_at_call 11; with_reducible (refine (len_none _).mono ?_); rintro e w ⟨rfl, rfl⟩)
  go_ret2
  exact ⟨rfl, rfl⟩

theorem Raw.le {k : K} {w : World} {A hs P : List Int} {ao : Option Addr} {l cap : Nat} (s : Raw k w A hs P (.slice ao l cap)) : l ≤ cap := by
  rcases s.wt.2 with ⟨e, h⟩ | ⟨b, c, cur, e, _, _, h, _⟩
  · cases e; omega
  · cases e; exact h

theorem Gd.c1 {k : K} {w : World} {A hs : List Int} {wv : Value} (s : Gd k w A hs wv) : w.cell? ⟨k.OB, 1, none⟩ = some wv := by
  obtain ⟨P, s, p⟩ := s; exact s.c1

theorem Gd.ch {k : K} {w : World} {A hs : List Int} {g l cap i : Nat} (s : Gd k w A hs (.slice (some ⟨g, 0, none⟩) l cap)) (hi : i < l) : ∃ u : Nat, fn hs i = u ∧ u < k.n ∧ w.cell? ⟨g, i, none⟩ = some (.int .i64 u) := by
  obtain ⟨P, s, p⟩ := s
  have hl := s.len rfl
  have := p.1 i (by omega)
  refine ⟨(fn hs i).toNat, by omega, by omega, ?_⟩
  rw [s.ch hl hi]
  congr 2
  omega

/-- All is done: what is left waits, and none of it is ahead of the first. -/
theorem pop_end {k : K} {w w' : World} {A hs hs1 hs2 : List Int} {W : List Bool} {wv wv3 : Value} {m x : Nat} (hl : hs.length = m + 1) (l1 : hs1.length = hs.length) (e : fn hs1 = sw (fn hs) 0 m) (hx : fn hs 0 = x) (inj : ∀ i j, i < m + 1 → j < m + 1 → fn hs i = fn hs j → i = j)
    (hf : First A W A.length x) (hla : A.length = k.n) (g : Good k.n A W hs) (hw : popW A W = W.set x false) (gd : Gd k w' A hs2 wv3) (l2 : hs2.length = m) (hin : ∀ y, In m (fn hs2) y ↔ In m (fn (hs1.take m)) y) (hp : Heap (ac A) m (fn hs2) 0) (fr : Fr k wv wv3 w w') : PopEnd k A W wv w w' := by
  refine ⟨wv3, ⟨hs2, gd, by rw [l2]; exact hp, ?_⟩, fr⟩
  rw [hw]
  refine g.pop (by have := hf.1; omega) hf.2.1 (by omega) fun y => ?_
  rw [l2, hin, left_in hl e hx inj]

theorem SwapEnd.out {k : K} {A hs : List Int} {wv : Value} {i j : Nat} {w w' : World} (h : SwapEnd k A hs wv i j w w') :
    ∃ hs' P', Raw k w' A hs' P' wv ∧ Hid (Pl k.n hs'.length (fn hs') (fn P')) ∧ Hid (hs'.length = hs.length) ∧ Hid (fn hs' = sw (fn hs) i j) ∧ Hid (Fr k wv wv w w') := by
  obtain ⟨hs', ⟨P', r, p⟩, l, e, f⟩ := h
  exact ⟨hs', P', r, p, l, e, f⟩

theorem pop_fr {k : K} {w w2 : World} {ga l cap m x nq : Nat} (f : Fr k (.slice (some ⟨ga, 0, none⟩) l cap) (.slice (some ⟨ga, 0, none⟩) l cap) (w.drewN nq) w2) (hl : l = m + 1) :
    Fr k (.slice (some ⟨ga, 0, none⟩) l cap) (.slice (some ⟨ga, 0, none⟩) m cap) w ((w2.setCell ⟨k.OB, 1, none⟩ (.slice (some ⟨ga, 0, none⟩) m cap)).setCell ⟨k.PB, x, none⟩ (.int .i64 0)) :=
  (((Fr.below (below_drewN' w nq)).trans f).trans Fr.cut).trans (Fr.grown (grown_set _ _ _) (fun q hq => by cases hq; exact .inr (.inl rfl)))

theorem take_pos {hs hs1 : List Int} {m : Nat} (l1 : hs1.length = hs.length) (hl : hs.length = m + 1) (h : 0 < m) : 0 < (hs1.take m).length := by rw [List.length_take]; omega

theorem pop_sunk {A hs hs1 : List Int} {m : Nat} (l1 : hs1.length = hs.length) (hl : hs.length = m + 1) (e : fn hs1 = sw (fn hs) 0 m) (hp : Heap (ac A) hs.length (fn hs) 0) : Sunk (ac A) (hs1.take m).length (fn (hs1.take m)) 0 0 := by
  have l2 : (hs1.take m).length = m := by rw [List.length_take]; omega
  rw [l2]
  rw [hl] at hp
  exact sunk_congr (popped hp) fun c cm => by rw [fn_take cm, e]

set_option maxHeartbeats 1000000 in
theorem pop_any {k : K} {w : World} {A : List Int} {W : List Bool} {wv : Value} (s : Ord k w A W wv) :
    Calls Try.prog 15 #[.pointer (some ⟨k.OB, 0, none⟩)] w fun e w' => e = .returned (.tuple #[.int .i64 (popV A W), .bool (popA A W)]) ∧ PopEnd k A W wv w w' := by
  obtain ⟨hs, gd, hp, g⟩ := id s
  rcases hm : hs.length with _ | m
  · have hn := none_waits gd g hm
    have HE : Hid (PopEnd k A W wv w w) := hid ⟨wv, by rw [popW_none hn]; exact s, Fr.refl _ _ _⟩
    have HV := hid (popV_none hn)
    have HA := hid (popA_none hn)
    obtain ⟨P, s1, p⟩ := gd
    have HS := hid s1
    clear s s1 p hp g hn
    go_enter Try.func15, Try.ntmps15
    go_wp2_with (go_at_call 11; with_reducible (refine (len_any HS.out).mono ?_); rintro e w ⟨rfl, rfl⟩; simp only [hm])
    go_ret2
    exact ⟨by rw [HV.out, HA.out]; rfl, HE.out⟩
  · obtain ⟨x, hx⟩ : ∃ x : Nat, fn hs 0 = x := by
      obtain ⟨P, s, p⟩ := gd
      have := (p.1 0 (by omega)).1
      exact ⟨(fn hs 0).toNat, by omega⟩
    have hf := top_first gd hp g (by omega) hx
    have HV := hid (popV_first hf)
    have HA := hid (popA_first hf)
    have HW := hid (popW_first hf)
    have HG := hid g
    have HH := hid hp
    have HX := hid hx
    have HGD := hid gd
    have HF := hid hf
    obtain ⟨P, s1, p⟩ := gd
    obtain ⟨ga, cap, rfl⟩ := s1.filled (by omega)
    have c1 := s1.c1
    have d0 := s1.ch (i := 0) rfl (by omega)
    rw [hx] at d0
    rw [hm] at c1
    have hxn : x < k.n := by have := hf.1; rw [s1.la] at this; exact this
    have hxn' : (x : Int) < k.n := by omega
    have hsm : m + 1 ≤ 1048576 := by have := p.len; have := s1.hn; omega
    have HS := hid s1
    have HM := hid hm
    have INJ : Hid (∀ i j, i < m + 1 → j < m + 1 → fn hs i = fn hs j → i = j) := hid (by rw [← hm]; exact p.inj)
    have hl0 : ((m : Int) + 1 == 0) = false := by rw [beq_eq_false_iff_ne]; omega
    have hpos : (0 : Int) < (m : Int) + 1 := by omega
    have hl1 : 0 < hs.length := by omega
    have hl2 : m < hs.length := by omega
    clear s s1 p hp g hx hf hm
    go_enter Try.func15, Try.ntmps15
    go_wp2_with (go_at_call 11; with_reducible (refine (len_any HS.out).mono ?_); rintro e w ⟨rfl, rfl⟩; simp only [HM.out])
    go_quiet (fail)
    by_cases hm0 : m = 0
    · subst hm0
      go_wp2_with (go_at_call 24; with_reducible (refine (swap_at (HGD.out.drewN _) (i := 0) (j := 0) (by simp) (by simp) hl1 hl2).mono ?_); rintro e w2 ⟨rfl, hs2⟩; have hs3 := hs2.out; obtain ⟨hs1, P1, r1, p1, l1, e1, f1⟩ := hs3; rw [HM.out] at r1; have e2 := r1.c1; have e3 := r1.cf 1; have hcap := r1.le; have r2 := hid (r1.cut (m := 0) (by rw [l1.out, HM.out]) (by omega)); have e4 := r2.out.c2; have e5 := r2.out.cp hxn; have e6 := r2.out.cpf x)
      go_ret2
      refine ⟨by rw [HV.out, HA.out]; rfl, ?_⟩
      have l2 : (hs1.take 0).length = 0 := by simp
      exact pop_end HM.out l1.out e1.out HX.out INJ.out HF.out r1.la HG.out HW.out (pop_ready r1 (l1.out.trans HM.out) (by have := p1.out; rw [l1.out, HM.out] at this; exact this) (by rw [e1.out, sw_r]; exact HX.out)) l2 (fun y => Iff.rfl) (fun c c0 cm _ => by omega) (pop_fr f1.out HM.out)
    · have hm1 : 0 < m := by omega
      have hm2 : (0 : Int) < m := by omega
      go_wp2_with (first
        | (go_at_call 24; with_reducible (refine (swap_at (HGD.out.drewN _) (i := 0) (j := m) (by simp) (by simp) hl1 hl2).mono ?_); rintro e w2 ⟨rfl, hs2⟩; have hs3 := hs2.out; obtain ⟨hs1, P1, r1, p1, l1, e1, f1⟩ := hs3; rw [HM.out] at r1; have e2 := r1.c1; have e3 := r1.cf 1; have hcap := r1.le; have r2 := hid (r1.cut (m := m) (by rw [l1.out, HM.out]) (by omega)); have e4 := r2.out.c2; have e5 := r2.out.cp hxn; have e6 := r2.out.cpf x; have g3 := hid (pop_ready r1 (l1.out.trans HM.out) (by have := p1.out; rw [l1.out, HM.out] at this; exact this) (by rw [e1.out, sw_r]; exact HX.out)); have e7 := g3.out.c1; have e8 := g3.out.ch (i := 0) hm1; obtain ⟨u, hu0, hun, e9⟩ := e8; have hu := hid hu0; clear hu0; have hu3 := take_pos l1.out HM.out hm1; have su := hid (pop_sunk l1.out HM.out e1.out HH.out))
        | (go_at_call 25; with_reducible (refine (sink_any g3.out u 0 0 hu3 hu.out su.out (Nat.le_refl _)).mono ?_); rintro e w5 ⟨rfl, h5⟩))
      go_ret2
      refine ⟨by rw [HV.out, HA.out]; rfl, ?_⟩
      obtain ⟨hs2, i2, mv, hp2⟩ := h5
      have l2 : (hs1.take m).length = m := by have := l1.out; have := HM.out; rw [List.length_take]; omega
      exact pop_end HM.out l1.out e1.out HX.out INJ.out HF.out r1.la HG.out HW.out mv.gd (mv.len.trans l2) (fun y => by have := mv.same y; rw [l2] at this; exact this) (by rw [l2] at hp2; exact hp2) ((pop_fr f1.out HM.out).trans mv.fr)

end Go.Proofs.Ytbddhjohlpblaaa
