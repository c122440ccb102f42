/-
  Push: one waits.
-/
import Derived.Test.YtbddhjohlpblaaaState
namespace Go.Proofs.Ytbddhjohlpblaaa
open Go.RowKit
set_option linter.unusedVariables false

/-- One element more at the end of a list that the call has made. -/
theorem append_new {w w1 : World} {ops : Array Oper} {rest : List Oper} {o : Oper} {a : Act} {Q : Exit → Act → World → Prop} (hgd : o.guard = none) (s x : Operand)
    (ho : o.op = .call { callee := .builtin .append, args := #[s, x], argTypes := #[26, 26] })
    (y : Int) (hw : w = w1.alloc (.cells #[.int .i64 y] 3)) (B n : Nat) (v : Value) (xs : List Value) (hs : a.eval s = v) (own : w1.ownsRow B 3 1 v n xs)
    (q : Nat) (hx : a.eval x = .slice (some ⟨q, 0, none⟩) 1 1) (hq : q = w1.heap.size) (hbd : n ≤ 100000000) (hB : B ≤ w1.heap.size)
    (h : ∀ v' w', Hid (w'.ownsRow B 3 1 v' (n + 1) (xs ++ [.int .i64 y])) → Hid (w1.grownBy w' v.ownBlock) → Hid (∀ j, v'.ownBlock = some j → v.ownBlock = some j ∨ w1.heap.size ≤ j) → wpList Try.prog ops Q rest (a.put o.dst v') w') : wpList Try.prog ops Q (o :: rest) a w := by
  subst hw hq
  obtain ⟨i0, hi, hz0, hz1, hz2⟩ := info_parts Try.info3
  refine wpList_append_own_at (P := Try.prog) (w := w1.alloc (.cells #[.int .i64 y] 3)) hgd s x 26 ho B 3 i0 (.int .i64 0) 1 8 Try.underlying26 hi hz0 hz1 hz2 rfl (by omega) v n xs hs (own.alloc _) ⟨w1.heap.size, 0, none⟩ 1 1 [.int .i64 y] hx (by simp) ?_ (by simp [Value.oneCell']) (by unfold maxLen; omega) (by omega) (by simp; omega) ?_
  · intro j u hj
    have e : (⟨w1.heap.size, 0, none⟩ : Addr).add j = ⟨w1.heap.size, j, none⟩ := by
      by_cases hz : j = 0
      · subst hz; rfl
      · simp [Addr.add, hz]
    rw [e, cell_of (new_same w1 _)]
    simpa using hj
  · intro v' w' h1 h2 _ h3
    refine h v' w' h1 (grown_two (grown_new w1 _ _) h2) fun j hj => ?_
    rcases h3 with h3 | h3
    · exact .inl (by rw [← h3]; exact hj)
    · rw [h3] at hj
      have := Option.some.inj hj
      simp at this
      exact .inr (by omega)

/-- What lies there behind the append. -/
theorem Raw.more {k : K} {w w5 : World} {A hs P : List Int} {wv v5 : Value} {x : Int} (s : Raw k w A hs P wv) (own : w5.ownsRow (k.OB + 1) 3 1 v5 (hs.length + 1) (hs.map (Value.int .i64) ++ [.int .i64 x])) (g : w.grownBy w5 wv.ownBlock)
    (new : ∀ j, v5.ownBlock = some j → wv.ownBlock = some j ∨ w.heap.size ≤ j) :
    ∃ g5 c5, v5 = .slice (some ⟨g5, 0, none⟩) (hs.length + 1) c5 ∧ w5.cell? ⟨k.OB, 1, none⟩ = some wv ∧ w5.frozen? ⟨k.OB, 1, none⟩ = false ∧ Hid (Raw k (w5.setCell ⟨k.OB, 1, none⟩ v5) A (hs ++ [x]) P v5) ∧ Hid (Fr k wv v5 w (w5.setCell ⟨k.OB, 1, none⟩ v5)) := by
  have own' : w5.ownsRow (k.OB + 1) 3 1 v5 (hs ++ [x]).length ((hs ++ [x]).map (Value.int .i64)) := by simpa using own
  obtain ⟨e, r⟩ := s.putv (wv' := v5) g own'
  obtain ⟨g5, c5, e5⟩ := r.filled (by simp)
  refine ⟨g5, c5, by simpa using e5, by rw [cell_of e]; rfl, frozen_of e, r, ?_⟩
  have g2 := grown_set w5 ⟨k.OB, 1, none⟩ v5
  refine ⟨g2.os.trans g.os, g2.tape.trans g.tape, g2.output.trans g.output, Nat.le_trans g.size g2.size, fun j hj hm => ?_, new⟩
  rw [set_other _ (fun c => hm (.inr (.inr (.inl c))))]
  exact g.block j hj (fun c => hm (.inr (.inr (.inr c.symm))))

theorem fn_snoc {l : List Int} {x : Int} {i : Nat} (h : i < l.length) : fn (l ++ [x]) i = fn l i := by simp [fn, List.getElem?_append_left h]
theorem fn_last (l : List Int) (x : Int) : fn (l ++ [x]) l.length = x := by simp [fn]

def PushEnd (k : K) (A : List Int) (W : List Bool) (wv : Value) (v : Int) (w w' : World) : Prop := ∃ wv', Ord k w' A (pushW k.n W v) wv' ∧ Fr k wv wv' w w'

theorem push_end {k : K} {w w6 w' : World} {A hs : List Int} {W : List Bool} {wv v5 : Value} {v : Nat} (hv : v < k.n) (hw : wt W v = false) (g : Good k.n A W hs) (f : Fr k wv v5 w w6) (r : RiseEnd k A (hs ++ [(v : Int)]) v5 v hs.length w6 w') : PushEnd k A W wv v w w' := by
  obtain ⟨hs', i', m, _, hp⟩ := r
  have hl : hs'.length = hs.length + 1 := by rw [m.len]; simp
  have ha : pushA k.n W v = true := by simp [pushA, isF_nat hv, hw]
  refine ⟨v5, ⟨hs', m.gd, ?_, ?_⟩, f.trans m.fr⟩
  · rw [m.len]
    exact hp (kids_none (by simp; omega))
  · rw [pushW, if_pos ha, Int.toNat_natCast]
    refine g.push hv hw hl fun x => ?_
    rw [m.len, m.same x]
    simp only [In, List.length_append, List.length_singleton]
    constructor
    · rintro ⟨i, hi, e⟩
      by_cases c : i = hs.length
      · subst c; rw [fn_last] at e; exact .inr e.symm
      · rw [fn_snoc (by omega)] at e; exact .inl ⟨i, by omega, e⟩
    · rintro (⟨i, hi, e⟩ | e)
      · exact ⟨i, by omega, by rw [fn_snoc hi]; exact e⟩
      · exact ⟨hs.length, by omega, by rw [fn_last]; exact e.symm⟩

theorem push_ready {k : K} {w : World} {A hs P : List Int} {v5 : Value} {v : Nat} (hv : v < k.n) (s : Raw k w A (hs ++ [(v : Int)]) P v5) (p : Pl k.n hs.length (fn hs) (fn P)) (h0 : fn P v = 0) (hp : Heap (ac A) hs.length (fn hs) 0) :
    Gd k (w.setCell ⟨k.PB, v, none⟩ (.int .i64 (hs.length + 1))) A (hs ++ [(v : Int)]) v5 ∧ Broken (ac A) (hs ++ [(v : Int)]).length (fn (hs ++ [(v : Int)])) hs.length := by
  refine ⟨⟨_, s.putp v (hs.length + 1), ?_⟩, ?_⟩
  · have hl : v < P.length := by rw [s.lp]; exact hv
    rw [List.length_append]
    refine pl_push p hv h0 (fun i hi => fn_snoc hi) (fn_last _ _) ?_ (fun u hu => ?_)
    · rw [fn_set hl, if_pos rfl]
    · rw [fn_set hl, if_neg hu]
  · rw [List.length_append]
    exact pushed hp fun i hi => fn_snoc hi

theorem push_none (v : Int) (w : World) : Calls Try.prog 17 #[.pointer none, .int .i64 v] w fun e w' => e = .returned (.bool false) ∧ w' = w := by
  go_enter Try.func17, Try.ntmps17
  go_wp2_with (go_at_call 23; with_reducible (refine (is_none _ _).mono ?_); rintro e w ⟨rfl, rfl⟩)
  go_ret
  exact ⟨rfl, rfl⟩

set_option maxHeartbeats 1000000 in
theorem push_any {k : K} {w : World} {A : List Int} {W : List Bool} {wv : Value} (s : Ord k w A W wv) (v : Int) :
    Calls Try.prog 17 #[.pointer (some ⟨k.OB, 0, none⟩), .int .i64 v] w fun e w' => e = .returned (.bool (pushA k.n W v)) ∧ PushEnd k A W wv v w w' := by
  obtain ⟨hs, ⟨P, s, p⟩, hp, g⟩ := id s
  have hno : pushA k.n W v = false → PushEnd k A W wv v w w := fun h => ⟨wv, by rw [pushW, h]; exact ⟨hs, ⟨P, s, p⟩, hp, g⟩, Fr.refl _ _ _⟩
  cases hi : isF k.n v
  · have ha : pushA k.n W v = false := by simp [pushA, hi]
    have HE := hid (hno ha)
    have HA := hid ha
    have HS := hid s
    clear s p hp g hno ha
    go_enter Try.func17, Try.ntmps17
    go_wp2_with (go_at_call 23; with_reducible (refine (is_any HS.out _).mono ?_); rintro e w ⟨rfl, rfl⟩)
    go_ret
    exact ⟨by rw [HA.out]; rfl, HE.out⟩
  · obtain ⟨v, rfl, hv⟩ := isF_yes hi
    have hv' : (v : Int) < k.n := by omega
    have c2 := s.c2
    have cp := s.cp hv
    cases hw : wt W v
    · have ha : pushA k.n W v = true := by simp [pushA, hi, hw]
      have h0 : fn P v = 0 := pl_out p hv (fun c => by rw [(g.wr v hv).2 c] at hw; cases hw)
      rw [h0] at cp
      have c1 := s.c1
      have hle := p.len
      have hkn := s.hn
      have hOB := blk_lt s.cl
      obtain ⟨ao, cap, ew⟩ := s.shape
      rw [ew] at c1
      have HA := hid ha
      have HS := hid s
      have HP := hid p
      have HH := hid hp
      have HG := hid g
      have H0 := hid h0
      have HW := hid hw
      have EW := hid ew
      clear s p hp g hno ha h0 hw ew
      go_enter Try.func17, Try.ntmps17
      go_wp2_with (first
        | (go_at_call 23; with_reducible (refine (is_any HS.out _).mono ?_); rintro e w ⟨rfl, rfl⟩)
        | (at_builtin; refine append_new (w1 := w) rfl _ _ rfl v rfl (k.OB + 1) hs.length wv _ EW.out.symm HS.out.wt _ rfl (by simp) (by omega) (by omega) ?_; intro v5 w5 own5 g5 new5; have m5 := HS.out.more own5.out g5.out new5.out; obtain ⟨g6, c6, rfl, d1, d2, r6, f6⟩ := m5; rw [EW.out] at d1; have e1 := r6.out.c1; have e2 := r6.out.c2; have e3 := r6.out.cp hv; have e4 := r6.out.cpf v))
      revert r6 f6 e1 e2 e3 e4
      generalize w5.setCell ⟨k.OB, 1, none⟩ (.slice (some ⟨g6, 0, none⟩) (hs.length + 1) c6) = w6
      intro r6 f6 e1 e2 e3 e4
      clear own5 g5 new5 d1 d2 c1 c2 cp
      have R7 := hid (push_ready hv r6.out HP.out H0.out HH.out)
      have F7 : Hid (Fr k wv (.slice (some ⟨g6, 0, none⟩) (hs.length + 1) c6) w (w6.setCell ⟨k.PB, v, none⟩ (.int .i64 (hs.length + 1))).drew) :=
        hid ((f6.out.trans (Fr.grown (grown_set w6 _ _) (fun q hq => by cases hq; exact .inr (.inl rfl)))).trans (Fr.drew _ _ _))
      go_region
      go_wp2_with (go_at_call 27; with_reducible (refine (rise_any (R7.out.1.below (below_drew _)) v hs.length (by simp) (fn_last _ _) R7.out.2).mono ?_); rintro e w8 ⟨rfl, h8⟩)
      go_ret
      exact ⟨by rw [HA.out]; rfl, push_end hv HW.out HG.out F7.out h8⟩
    · have ha : pushA k.n W v = false := by simp [pushA, hi, hw]
      have h0 : 0 < fn P v := (pl_in p hv).1 ((g.wr v hv).1 hw)
      have HE := hid (hno ha)
      have HA := hid ha
      have HS := hid s
      clear s p hp g hno ha hw
      go_enter Try.func17, Try.ntmps17
      go_wp2_with (go_at_call 23; with_reducible (refine (is_any HS.out _).mono ?_); rintro e w ⟨rfl, rfl⟩)
      go_ret
      exact ⟨by rw [HA.out]; rfl, HE.out⟩

end Go.Proofs.Ytbddhjohlpblaaa
