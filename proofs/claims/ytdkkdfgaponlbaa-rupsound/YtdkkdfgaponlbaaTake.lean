/-
  take: a literal holds.
-/
import Derived.Test.YtdkkdfgaponlbaaOf
namespace Go.Proofs.Ytdkkdfgaponlbaa
open Go.RowKit Go.Maps
set_option linter.unusedVariables false

theorem Try.info74 : (Try.prog.info? 74).map (fun i => (i.zero, i.size, i.bytes)) = some (some (.agg #[.int .i64 0, .int .i64 0]), 2, 16) := by kernel_rfl

/-- One element more at the end of a list that the call has made. -/
theorem append_new {w w1 : World} {ops : Array Oper} {rest : List Oper} {o : Oper} {a : Act} {Q : Exit → Act → World → Prop} (hgd : o.guard = none) (s x : Operand) (T E : TypeId)
    (ho : o.op = .call { callee := .builtin .append, args := #[s, x], argTypes := #[T, T] }) (hT : Try.prog.underlying T = some (.slice E)) (z : Value) (sz by_ : Nat) (hz : z.cells.size = sz) (h0 : 0 < sz)
    (hE : (Try.prog.info? E).map (fun i => (i.zero, i.size, i.bytes)) = some (some z, sz, by_)) (hby : by_ ≤ 24)
    (u : List Value) (hw : w = w1.alloc (.cells u.toArray E)) (hl : u.length = sz) (hu : ∀ y ∈ u, y.oneCell' = true) (B n : Nat) (v : Value) (xs : List Value) (hs : a.eval s = v) (own : w1.ownsRow B E sz v n xs)
    (q : Nat) (hx : a.eval x = .slice (some ⟨q, 0, none⟩) 1 1) (hq : q = w1.heap.size) (hbd : n ≤ 100000000) (hB : B ≤ w1.heap.size)
    (h : ∀ v' w', Hid (w'.ownsRow B E sz v' (n + 1) (xs ++ u)) → Hid (w1.grownBy w' v.ownBlock) → wpList Try.prog ops Q rest (a.put o.dst v') w') : wpList Try.prog ops Q (o :: rest) a w := by
  subst hw hq
  obtain ⟨i0, hi, hz0, hz1, hz2⟩ := info_parts hE
  have hmul : (n + 1) * by_ ≤ (n + 1) * 24 := Nat.mul_le_mul_left _ hby
  refine wpList_append_own (P := Try.prog) (w := w1.alloc (.cells u.toArray E)) hgd s x T ho B E i0 z sz by_ hT hi hz0 hz1 hz2 hz h0 v n xs hs (own.alloc _) ⟨w1.heap.size, 0, none⟩ 1 1 u hx (by omega) ?_ hu (by unfold maxLen; omega) (by omega) (by simp; omega) ?_
  · intro j y hj
    have e : (⟨w1.heap.size, 0, none⟩ : Addr).add j = ⟨w1.heap.size, j, none⟩ := by
      by_cases hz : j = 0
      · subst hz; rfl
      · simp [Addr.add, hz]
    rw [e, cell_of (new_same w1 _)]
    simpa using hj
  · intro v' w' h1 h2 _
    exact h v' w' h1 (grown_two (grown_new w1 _ _) h2)

theorem own_shape {w : World} {B : Nat} {E : TypeId} {sz : Nat} {v : Value} {n : Nat} {xs : List Value} (h : w.ownsRow B E sz v n xs) : ∃ ao cap, v = .slice ao n cap := by
  rcases h.2 with ⟨rfl, rfl⟩ | ⟨g, cap, cur, rfl, _⟩
  · exact ⟨none, 0, rfl⟩
  · exact ⟨_, _, rfl⟩

def addH (H : List Int) (x : Int) : List Int := if x ∈ H then H else H ++ [x]

/-- Behind the beginning: which hold is written down, and all uses. -/
def P2 (k : K) (fst : Int → Int) (us : List (Int × Int)) (op : List Int) (H : List Int) (w : World) : Prop :=
  ∃ F M ks uv hv, St k w F M ks op us uv H hv ∧ (∀ y, (F y).h = decide (y ∈ H)) ∧ (∀ y, (F y).f = fst y) ∧ H.Nodup ∧ ∀ y ∈ H, y ∈ k.Ks ∧ notF y ∉ H

theorem P2.below {k : K} {fst : Int → Int} {us : List (Int × Int)} {op H : List Int} {w w' : World} (h : P2 k fst us op H w) (b : Below w.heap.size w w') : P2 k fst us op H w' := by
  obtain ⟨F, M, ks, uv, hv, s, r⟩ := h; exact ⟨F, M, ks, uv, hv, s.below b, r⟩

theorem P2.len {k : K} {fst : Int → Int} {us : List (Int × Int)} {op H : List Int} {w : World} (h : P2 k fst us op H w) : H.length ≤ 1000000 := by
  obtain ⟨F, M, ks, uv, hv, s, _, _, hn, hk⟩ := h
  have := len_sub hn (fun y hy => (hk y hy).1)
  have := s.ok.keys
  omega

theorem add_old {H : List Int} {x : Int} (h : x ∈ H) : addH H x = H := by simp only [addH]; rw [if_pos h]
theorem add_fresh {H : List Int} {x : Int} (h : x ∉ H) : addH H x = H ++ [x] := by simp only [addH]; rw [if_neg h]

theorem addH_ok {Ks H : List Int} {x : Int} (hx : x ∈ Ks) (x0 : 0 ≤ x) (hf : x ∉ H) (hno : notF x ∉ H) (hn : H.Nodup) (hk : ∀ y ∈ H, y ∈ Ks ∧ notF y ∉ H) : (H ++ [x]).Nodup ∧ ∀ y ∈ H ++ [x], y ∈ Ks ∧ notF y ∉ H ++ [x] := by
  refine ⟨?_, fun y hy => ?_⟩
  · rw [List.nodup_append]
    refine ⟨hn, by simp, fun a ha b hb => ?_⟩
    rw [List.mem_singleton] at hb; subst hb; rintro rfl; exact hf ha
  · rcases List.mem_append.1 hy with hy | hy
    · refine ⟨(hk y hy).1, fun h => ?_⟩
      rcases List.mem_append.1 h with h | h
      · exact (hk y hy).2 h
      · rw [List.mem_singleton] at h
        exact hno ((not_eq x0).1 h ▸ hy)
    · rw [List.mem_singleton] at hy; subst hy
      refine ⟨hx, fun h => ?_⟩
      rcases List.mem_append.1 h with h | h
      · exact hno h
      · rw [List.mem_singleton] at h; exact not_ne x0 h

theorem held_app {k : K} {w w' : World} {F : Int → Fa} {M : Int → Option Nat} {ks op : List Int} {us : List (Int × Int)} {uv hv hv' : Value} {H : List Int} {x : Int} (s : St k w F M ks op us uv H hv) (g : Hid (w.grownBy w' hv.ownBlock))
    (own : Hid (w'.ownsRow (k.OB + 1) 3 1 hv' (H.length + 1) (H.map (Value.int .i64) ++ [.int .i64 x]))) :
    w'.cell? ⟨k.C, 5, none⟩ = some hv ∧ w'.frozen? ⟨k.C, 5, none⟩ = false ∧ Hid (St k (w'.setCell ⟨k.C, 5, none⟩ hv') F M ks op us uv (H ++ [x]) hv') := by
  obtain ⟨e, s'⟩ := s.puthe (H' := H ++ [x]) g.out (by have := own.out; simpa using this)
  exact ⟨by rw [cell_of e]; rfl, frozen_of e, s'⟩

theorem take_end {k : K} {w : World} {F : Int → Fa} {M : Int → Option Nat} {ks op : List Int} {us : List (Int × Int)} {uv hv : Value} {H : List Int} {x : Int} {fst : Int → Int} (hx : x ∈ k.Ks) (x0 : 0 ≤ x) (hxn : x ∉ H) (hno : notF x ∉ H)
    (s : St k w (upd F x { F x with h := true }) M ks op us uv (H ++ [x]) hv) (hh : ∀ y, (F y).h = decide (y ∈ H)) (hf : ∀ y, (F y).f = fst y) (hn : H.Nodup) (hk : ∀ y ∈ H, y ∈ k.Ks ∧ notF y ∉ H) : P2 k fst us op (addH H x) w := by
  rw [add_fresh hxn]
  obtain ⟨h1, h2⟩ := addH_ok hx x0 hxn hno hn hk
  refine ⟨_, _, _, _, _, s, fun y => ?_, fun y => ?_, h1, h2⟩
  · by_cases e : y = x
    · subst e; rw [upd_same]; simp
    · rw [upd_ne _ _ e, hh]; simp [e]
  · by_cases e : y = x
    · subst e; rw [upd_same]; exact hf y
    · rw [upd_ne _ _ e, hf]

def TakeEnd (k : K) (fst : Int → Int) (us : List (Int × Int)) (op H : List Int) (x : Int) (e : Ending) (w' : World) : Prop :=
  (notF x ∈ H ∧ e = .returned (.bool false) ∧ P2 k fst us op H w') ∨ (notF x ∉ H ∧ e = .returned (.bool true) ∧ P2 k fst us op (addH H x) w')

set_option maxHeartbeats 1000000 in
theorem take_any (k : K) (fst : Int → Int) (us : List (Int × Int)) (op H : List Int) (w : World) (hp : P2 k fst us op H w) (x : Int) (hx : x ∈ k.Ks) (hnx : notF x ∈ k.Ks) :
    Calls Try.prog 41 #[.pointer (some ⟨k.C, 0, none⟩), .int .i64 x] w fun e w' => TakeEnd k fst us op H x e w' := by
  have hlen := hp.len
  obtain ⟨F, M, ks, uv, hv, s, hh, hf, hn, hk⟩ := hp
  obtain ⟨x0, x1⟩ := s.ok.Kn x hx
  have HS := hid s
  have HX := hid hx
  have HNX := hid hnx
  have HH := hid hh
  have HR := hid (And.intro hf (And.intro hn hk))
  clear s hx hnx hh hf hn hk
  cases hb : decide (notF x ∈ H)
  · have hq : (F (notF x)).h = false := by rw [HH.out]; exact hb
    have HM : Hid (notF x ∉ H) := hid (by simpa using hb)
    have HN0 := hid (not_pos x0)
    cases hb2 : decide (x ∈ H)
    · have hq2 : (F x).h = false := by rw [HH.out]; exact hb2
      have HM2 : Hid (x ∉ H) := hid (by simpa using hb2)
      go_enter Try.func41, Try.ntmps41
      go_wp2
      go_region_with (first
        | (go_at_call 37; with_reducible (refine (not_any _ _ x1).mono ?_); rintro e w1 ⟨rfl, hb1⟩)
        | (go_at_call 51; with_reducible (refine (of_at (HS.out.drew.below hb1) _ HNX.out).mono ?_); rintro e w2 ⟨b2, o2, M2, ks2, rfl, hs2, ha2⟩; have c0 := hs2.out.fa.c0 ha2.out HN0.out))
      go_wp2_with (first
        | (go_at_call 51; with_reducible (refine (of_at hs2.out _ HX.out).mono ?_); rintro e w3 ⟨b3, o3, M3, ks3, rfl, hs3, ha3⟩; have d0 := hs3.out.fa.c0 ha3.out x0; have d1 := hs3.out.fa.fr ha3.out x0 o3; have c5 := (hs3.out.puth ha3.out x0 true).c5)
        | (at_builtin; refine append_new (w1 := w3.setCell ⟨b3, o3, none⟩ (.bool true)) rfl _ _ 26 3 rfl Try.underlying26 (.int .i64 0) 1 8 rfl (by decide) Try.info3 (by omega) [.int .i64 x] rfl rfl (ints_one [x]) (k.OB + 1) H.length hv _ rfl (hs3.out.puth ha3.out x0 true).he _ rfl (by simp) (by omega) (blk_lt (hs3.out.puth ha3.out x0 true).op) ?_; intro v5 w5 own5 g5; obtain ⟨ao5, cp5, rfl⟩ := own_shape own5.out; have s5 := held_app (hs3.out.puth ha3.out x0 true) g5 own5; obtain ⟨c6, c7, s6⟩ := s5))
      go_ret
      exact .inr ⟨HM.out, rfl, take_end HX.out x0 HM2.out HM.out s6.out HH.out HR.out.1 HR.out.2.1 HR.out.2.2⟩
    · have hq2 : (F x).h = true := by rw [HH.out]; exact hb2
      have HM2 : Hid (x ∈ H) := hid (by simpa using hb2)
      go_enter Try.func41, Try.ntmps41
      go_wp2
      go_region_with (first
        | (go_at_call 37; with_reducible (refine (not_any _ _ x1).mono ?_); rintro e w1 ⟨rfl, hb1⟩)
        | (go_at_call 51; with_reducible (refine (of_at (HS.out.drew.below hb1) _ HNX.out).mono ?_); rintro e w2 ⟨b2, o2, M2, ks2, rfl, hs2, ha2⟩; have c0 := hs2.out.fa.c0 ha2.out HN0.out))
      go_wp2_with (go_at_call 51; with_reducible (refine (of_at hs2.out _ HX.out).mono ?_); rintro e w3 ⟨b3, o3, M3, ks3, rfl, hs3, ha3⟩; have d0 := hs3.out.fa.c0 ha3.out x0)
      go_ret
      exact .inr ⟨HM.out, rfl, _, _, _, _, _, (add_old HM2.out).symm ▸ hs3.out, (add_old HM2.out).symm ▸ HH.out, (add_old HM2.out).symm ▸ HR.out⟩
  · have hq : (F (notF x)).h = true := by rw [HH.out]; exact hb
    have HM : Hid (notF x ∈ H) := hid (by simpa using hb)
    have HN0 := hid (not_pos x0)
    go_enter Try.func41, Try.ntmps41
    go_wp2
    go_region_with (first
      | (go_at_call 37; with_reducible (refine (not_any _ _ x1).mono ?_); rintro e w1 ⟨rfl, hb1⟩)
      | (go_at_call 51; with_reducible (refine (of_at (HS.out.drew.below hb1) _ HNX.out).mono ?_); rintro e w2 ⟨b2, o2, M2, ks2, rfl, hs2, ha2⟩; have c0 := hs2.out.fa.c0 ha2.out HN0.out))
    all_goals go_wp2
    all_goals go_ret
    all_goals exact .inl ⟨HM.out, rfl, _, _, _, _, _, hs2.out, HH.out, HR.out⟩

end Go.Proofs.Ytdkkdfgaponlbaa
