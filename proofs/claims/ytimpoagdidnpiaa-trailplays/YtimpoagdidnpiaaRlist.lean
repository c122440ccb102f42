/-
  The document's Lits and Back.
-/
import Derived.Test.YtimpoagdidnpiaaRback
namespace Go.Proofs.Ytimpoagdidnpiaa
open Go.RowKit
set_option linter.unusedVariables false

theorem OwnL.low {w : World} {B B' : Nat} {v : Value} {xs : List Int} (h : OwnL w B v xs) (hB : B' ≤ B) : OwnL w B' v xs := own_low h hB
theorem OwnL.below {w w' : World} {B : Nat} {v : Value} {xs : List Int} (h : OwnL w B v xs) (b : Below w.heap.size w w') : OwnL w' B v xs := h.keep (grown_below b) (fun j hj => by cases hj)
theorem OwnL.nil (w : World) (B : Nat) : OwnL w B (.slice none 0 0) [] := World.ownsRow_nil _ _ _ _

theorem lits_next {L : List E} {q : Nat} {e : E} (h : L[q]? = some e) : litsF (L.take (q + 1)) = litsF (L.take q) ++ [(e.l : Int)] := by
  rw [List.take_add_one, h]; simp [litsF]

theorem below_more {w wr w2 : World} {o : Obj} {B : Nat} {v : Value} {xs : List Int} (b : Below (w.alloc o).heap.size (w.alloc o) wr) (own : OwnL wr (w.heap.size + 1) v xs) (g : wr.grownBy w2 v.ownBlock) : Below (w.alloc o).heap.size (w.alloc o) w2 := by
  have e : (w.alloc o).heap.size = w.heap.size + 1 := by simp
  have := b.size
  exact b.trans (below_grown g (fun j hj => by have := (own.lt hj).1; omega) this)

section
variable {w : World} {rv : Value} {L : List E} {n lev : Nat}

set_option maxHeartbeats 1000000 in
theorem rlits_any (s : RS w rv L n lev) (nn lv : Int) : Calls Try.prog 19 #[.agg #[.int .i64 nn, rv, .int .i64 lv]] w fun e w' => ∃ ao m c, e = .returned (.slice ao m c) ∧ Hid (OwnL w' w.heap.size (.slice ao m c) (litsF L)) ∧ Hid (Below w.heap.size w w') := by
  obtain ⟨ao, cap, rfl, _⟩ := s.ro.shape
  have HS := hid (s.below (w' := w.alloc (.cells #[.int .i64 nn, .slice ao L.length cap, .int .i64 lv] 28)) (by go_grown))
  have hl := s.hl
  clear s
  go_enter Try.func19, Try.ntmps19
  go_wp2
  go_loopw [3, 4] (fun out i wr => ∃ q : Nat, q ≤ L.length ∧ i = .int .i64 q ∧ Hid (OwnL wr (w.heap.size + 1) out (litsF (L.take q))) ∧ Hid (Below (w.alloc (.cells #[.int .i64 nn, .slice ao L.length cap, .int .i64 lv] 28)).heap.size (w.alloc (.cells #[.int .i64 nn, .slice ao L.length cap, .int .i64 lv] 28)) wr)) (fun _ i _ => L.length - (intOf i).toNat)
  case atStart => exact ⟨0, Nat.zero_le _, rfl, hid (OwnL.nil _ _), hid (Below.refl _ _)⟩
  case round =>
    obtain ⟨q, hq, rfl, hown, hb⟩ := hrel
    have bx := box_after hb.out
    obtain ⟨d0, d1, d2⟩ := bx
    by_cases hlt : q < L.length
    · have hlt' : (q : Int) < L.length := by omega
      obtain ⟨e, he⟩ : ∃ e, L[q]? = some e := ⟨_, List.getElem?_eq_getElem hlt⟩
      obtain ⟨g, rfl, x0, x1, x2⟩ := (HS.out.below hb.out).ro.at he
      have HN := hid (lits_next he)
      have hsz : w.heap.size + 1 ≤ wr.heap.size := by have := hb.out.size; simp at this; omega
      have hll : (litsF (L.take q)).length ≤ 100000000 := by rw [litsF_len, List.length_take]; omega
      clear he
      go_wp2_with (at_builtin; refine append_new (w1 := wr) rfl _ _ rfl (e.l : Int) rfl (w.heap.size + 1) _ _ rfl (LRow.of_own hown.out) _ rfl (by simp) hll hsz ?_; intro v5 w5 own5 g5 new5)
      go_roundw
      case rel => exact ⟨q + 1, by omega, by go_num, hid (by rw [HN.out]; exact own5.out), hid (below_more (B := 0) hb.out hown.out g5.out)⟩
      case measure => simp only [intOf]; omega
    · have HT : Hid (L.take q = L) := hid (List.take_of_length_le (by omega))
      obtain ⟨ao2, c2, rfl, _⟩ := (LRow.of_own hown.out).shape
      go_wp2
      go_ret
      rw [HT.out] at hown ⊢
      exact ⟨_, _, _, rfl, hid (hown.out.low (B' := w.heap.size) (by omega)), hid (Below.next (w1 := w.alloc (.cells #[.int .i64 nn, .slice ao L.length cap, .int .i64 lv] 28)) (by go_grown) hb.out)⟩

/-! ### Back -/
theorem RO.cut {w : World} {g m cap : Nat} {L : List E} {q : Nat} (s : RO w (.slice (some ⟨g, 0, none⟩) m cap) L) (hq : q ≤ L.length) : RO w (.slice (some ⟨g, 0, none⟩) q cap) (L.take q) := by
  have hl : (L.take q).length = q := by rw [List.length_take]; omega
  unfold RO
  rw [hl]
  refine ⟨by rw [flat_len, hl], ?_⟩
  rcases s.2 with ⟨e, _⟩ | ⟨b, c, cur, e, hb, hg, h1, h2, h3, h4⟩
  · cases e
  · cases e
    refine .inr ⟨g, cap, cur, rfl, hb, hg, by omega, h2, h3, ?_⟩
    rw [flat_take, ← h4, List.take_take]
    congr 1
    omega

def goneF (L : List E) (q : Nat) : List Int := (L.drop q).reverse.map (fun e => (vr e : Int))

theorem gone_next {L : List E} {q : Nat} {e : E} (h : L[q]? = some e) : goneF L q = goneF L (q + 1) ++ [(vr e : Int)] := by
  have hq := (List.getElem?_eq_some_iff.1 h).1
  have e1 : L[q] = e := by
    have := List.getElem?_eq_getElem hq
    rw [this] at h; exact Option.some.inj h
  unfold goneF
  rw [List.drop_eq_getElem_cons hq, e1]
  simp

theorem gone_len (L : List E) (q : Nat) : (goneF L q).length = L.length - q := by simp [goneF]

theorem cut_go {L : List E} {x : Int} {q : Nat} {e : E} (h : L[q]? = some e) (hx : x < (e.g : Int)) : cutN L x (q + 1) = cutN L x q := by simp [cutN, h, hx]
theorem cut_end {L : List E} {x : Int} {q : Nat} {e : E} (h : L[q]? = some e) (hx : ¬ x < (e.g : Int)) : cutN L x (q + 1) = q + 1 := by simp [cutN, h, hx]

/-- Behind the copy. -/
theorem rb_end {w wr w6 : World} {rv v6 out : Value} {L : List E} {G : List Int} {m : Nat} {p q s p' q' s' : Value} (b3 : Below ((w.alloc (.cells #[p, q, s] 28)).alloc (.cells #[p', q', s'] 28)).heap.size ((w.alloc (.cells #[p, q, s] 28)).alloc (.cells #[p', q', s'] 28)) wr) (b6 : Below wr.heap.size wr w6) (own : w6.ownsRow wr.heap.size 57 3 v6 (L.take m).length (flat (L.take m))) (ho : OwnL wr (w.heap.size + 2) out G) (hm : m ≤ L.length) :
    ∃ ao cp, v6 = .slice ao m cp ∧ w6.heap[w.heap.size]? = some (.cells #[p, q, s] 28 (0, 0)) ∧ w6.heap[w.heap.size + 1]? = some (.cells #[p', q', s'] 28 (0, 0)) ∧
      Hid (∀ a b c d : Value, ReEnd rv (L.take m) w v6 (((((w6.setCell ⟨w.heap.size, 1, none⟩ v6).setCell ⟨w.heap.size, 2, none⟩ d).setCell ⟨w.heap.size + 1, 0, none⟩ a).setCell ⟨w.heap.size + 1, 1, none⟩ b).setCell ⟨w.heap.size + 1, 2, none⟩ c) ∧ OwnL (((((w6.setCell ⟨w.heap.size, 1, none⟩ v6).setCell ⟨w.heap.size, 2, none⟩ d).setCell ⟨w.heap.size + 1, 0, none⟩ a).setCell ⟨w.heap.size + 1, 1, none⟩ b).setCell ⟨w.heap.size + 1, 2, none⟩ c) w.heap.size out G) := by
  obtain ⟨k1, k2, b4⟩ := two_boxes b3
  have hs3 : w.heap.size + 2 ≤ wr.heap.size := by have := b3.size; simp at this; omega
  have m1 := box_keep k1 b6
  have m2 := box_keep k2 b6
  have ro : RO w6 v6 (L.take m) := own_base own
  obtain ⟨ao, cp, e6, _⟩ := ro.shape
  have hl : (L.take m).length = m := by rw [List.length_take]; omega
  rw [hl] at e6
  have ho6 := ho.below b6
  refine ⟨ao, cp, e6, m1, m2, fun a b c d => ?_⟩
  have g1 := grown_set w6 ⟨w.heap.size, 1, none⟩ v6
  have g2 := grown_set (w6.setCell ⟨w.heap.size, 1, none⟩ v6) ⟨w.heap.size, 2, none⟩ d
  have n1 := set_same (o := 1) m1 v6
  have m2' : ((w6.setCell ⟨w.heap.size, 1, none⟩ v6).setCell ⟨w.heap.size, 2, none⟩ d).heap[w.heap.size + 1]? = some (.cells #[p', q', s'] 28 (0, 0)) := by
    rw [g2.block _ (by have := blk_lt m2; have := g1.size; omega) (fun e => by have := Option.some.inj e; simp at this), g1.block _ (blk_lt m2) (fun e => by have := Option.some.inj e; simp at this)]; exact m2
  have g3 := grown3 ((w6.setCell ⟨w.heap.size, 1, none⟩ v6).setCell ⟨w.heap.size, 2, none⟩ d) (w.heap.size + 1) 0 1 2 a b c
  refine ⟨⟨((ro.put1 m1 v6).put1 n1 d).put3 m2' a b c, ?_, ?_⟩, ?_⟩
  · intro j hj
    exact .inr (by have := (own_lt own hj).1; omega)
  · exact put3_below (((Below.next b4 b6).setCell (p := ⟨w.heap.size, 1, none⟩) (Nat.le_refl _) v6).setCell (p := ⟨w.heap.size, 2, none⟩) (Nat.le_refl _) d) (by omega) _ _ _
  · have far : ∀ j, out.ownBlock = some j → w.heap.size + 2 ≤ j := fun j hj => (ho6.lt hj).1
    refine (((ho6.keep g1 (fun j hj e => ?_)).keep g2 (fun j hj e => ?_)).keep g3 (fun j hj e => ?_)).low (by omega)
    · cases hj; have := far _ e; simp at this; omega
    · cases hj; have := far _ e; simp at this; omega
    · cases hj; have := far _ e; omega

def RbEnd (rv : Value) (L : List E) (lev : Nat) (x : Int) (w : World) (rv' out : Value) (w' : World) : Prop := ReEnd rv (backL L lev x) w rv' w' ∧ OwnL w' w.heap.size out (backG L lev x)

theorem rb_fin {rv rv' out : Value} {L : List E} {lev q : Nat} {x : Int} {w w' : World} (hk : backL L lev x = L.take (cutN L x L.length) ∧ (backV lev x : Int) = x ∧ backG L lev x = goneF L (cutN L x L.length)) (hc : cutN L x L.length = q) (h : ReEnd rv (L.take q) w rv' w' ∧ OwnL w' w.heap.size out (goneF L q)) : RbEnd rv L lev x w rv' out w' := by
  unfold RbEnd
  rw [hk.1, hk.2.2, hc]
  exact h

theorem below_more2 {w wr w2 : World} {o o' : Obj} {v : Value} {xs : List Int} (b : Below ((w.alloc o).alloc o').heap.size ((w.alloc o).alloc o') wr) (own : OwnL wr (w.heap.size + 2) v xs) (g : wr.grownBy w2 v.ownBlock) : Below ((w.alloc o).alloc o').heap.size ((w.alloc o).alloc o') w2 := by
  have e : ((w.alloc o).alloc o').heap.size = w.heap.size + 1 + 1 := by simp
  have := b.size
  exact b.trans (below_grown g (fun j hj => by have := (own.lt hj).1; omega) this)

set_option maxHeartbeats 4000000 in
theorem rback_any (s : RS w rv L n lev) (x : Int) :
    Calls Try.prog 25 #[.agg #[.int .i64 n, rv, .int .i64 lev], .int .i64 x] w fun e w' => ∃ rv' out, e = .returned (.tuple #[.agg #[.int .i64 n, rv', .int .i64 (backV lev x)], out]) ∧ RbEnd rv L lev x w rv' out w' := by
  have hl := s.hl
  have hv := s.hv
  cases hok : backOk lev x
  · obtain ⟨ao, cap, rfl, _⟩ := s.ro.shape
    have HK := hid (back_no (L := L) hok)
    have HS := hid s
    obtain ⟨k1, k2, b4⟩ := two_boxes (Below.refl _ ((w.alloc (.cells #[.int .i64 n, .slice ao L.length cap, .int .i64 lev] 28)).alloc (.cells #[.int .i64 0, .slice none 0 0, .int .i64 0] 28)))
    have HE := hid (re_same (p := .int .i64 n) (q := .slice ao L.length cap) (s := .int .i64 lev) s.ro b4 k2 (by omega))
    clear s k1 b4
    by_cases h0 : x < 0
    · clear hok
      go_enter Try.func25, Try.ntmps25
      go_wp2
      refine bodyPost_ret (results_box2 rfl _ _ (w.heap.size + 1) (.int .i64 n) (.slice ao L.length cap) (.int .i64 lev) rfl (by simp [go_sem]) (by simp [go_sem]) (by simp [go_sem])) rfl ?_
      exact ⟨_, _, by rw [HK.out.2.1] <;> rfl, by rw [RbEnd, HK.out.1, HK.out.2.2]; exact ⟨by simpa [go_sem] using HE.out, OwnL.nil _ _⟩⟩
    · have h1 : (lev : Int) ≤ x := by simp [backOk] at hok; omega
      clear hok
      go_enter Try.func25, Try.ntmps25
      go_wp2
      refine bodyPost_ret (results_box2 rfl _ _ (w.heap.size + 1) (.int .i64 n) (.slice ao L.length cap) (.int .i64 lev) rfl (by simp [go_sem]) (by simp [go_sem]) (by simp [go_sem])) rfl ?_
      exact ⟨_, _, by rw [HK.out.2.1] <;> rfl, by rw [RbEnd, HK.out.1, HK.out.2.2]; exact ⟨by simpa [go_sem] using HE.out, OwnL.nil _ _⟩⟩
  · obtain ⟨i, rfl, hi⟩ := backOk_yes hok
    have HK : Hid (backL L lev i = L.take (cutN L i L.length) ∧ (backV lev i : Int) = i ∧ backG L lev i = goneF L (cutN L i L.length)) := hid ⟨by simp [backL, hok], by simp [backV, hok], by simp [backG, hok, goneF]⟩
    have hlp : 0 < L.length := by omega
    obtain ⟨gb, cap, rfl, hcap, hcm⟩ : ∃ g cap, rv = .slice (some ⟨g, 0, none⟩) L.length cap ∧ L.length ≤ cap ∧ cap ≤ maxLen := by
      rcases s.ro.2 with ⟨_, h⟩ | ⟨b, cap, cur, rfl, _, _, h1, h2, _⟩
      · omega
      · exact ⟨b, cap, rfl, h1, h2⟩
    unfold maxLen at hcm
    have HS := hid s
    have HHB := hid s.hb
    have h0 : ¬ ((i : Int) < 0) := by omega
    have hi' : ¬ ((lev : Int) ≤ i) := by omega
    have dj : decide (lev ≤ i) = false := by simp; omega
    clear s hok
    go_enter Try.func25, Try.ntmps25
    go_wp2
    go_loopw [6, 7] (fun out m wr => ∃ q : Nat, q ≤ L.length ∧ m = .int .i64 q ∧ Hid (OwnL wr (w.heap.size + 2) out (goneF L q)) ∧ Hid (cutN L i q = cutN L i L.length) ∧ Hid (Below ((w.alloc (.cells #[.int .i64 n, .slice (some ⟨gb, 0, none⟩) L.length cap, .int .i64 lev] 28)).alloc (.cells #[.int .i64 0, .slice none 0 0, .int .i64 0] 28)).heap.size ((w.alloc (.cells #[.int .i64 n, .slice (some ⟨gb, 0, none⟩) L.length cap, .int .i64 lev] 28)).alloc (.cells #[.int .i64 0, .slice none 0 0, .int .i64 0] 28)) wr)) (fun _ m _ => (intOf m).toNat)
    case atStart => exact ⟨L.length, Nat.le_refl _, rfl, hid (by have e : goneF L L.length = [] := by simp [goneF]
                                                                 rw [e]; exact OwnL.nil _ _), hid rfl, hid (Below.refl _ _)⟩
    case round =>
      obtain ⟨q, hq, rfl, hown, hcut, hb3⟩ := hrel
      obtain ⟨k1, k2, b4⟩ := two_boxes hb3.out
      obtain ⟨⟨d0, d1, d2⟩, d3, d4, d5⟩ := box_cells k1
      have HS4 := hid (HS.out.below b4)
      cases q with
      | zero =>
        have HC : Hid (cutN L i L.length = 0) := hid (by rw [← hcut.out]; rfl)
        have hcl : (0 : Int) ≤ cap := by omega
        go_wp2_with (at_builtin; refine append_copy rfl _ _ rfl rfl _ rfl (L.take 0) (HS4.out.ro.cut (by omega)) (by rw [List.length_take]; omega) ?_; intro v6 w6 own6 b6; have y1 := rb_end (rv := .slice (some ⟨gb, 0, none⟩) L.length cap) hb3.out b6.out own6.out hown.out (by omega); obtain ⟨ao6, cp6, rfl, m1, m2, y3⟩ := y1; have q7 := box_cells m1; obtain ⟨⟨g0, g1, g2⟩, g3, g4, g5⟩ := q7; have q8 := box_cells m2; obtain ⟨⟨r0, r1, r2⟩, r3, r4, r5⟩ := q8)
        refine bodyPost_ret (results_box2 rfl _ _ (w.heap.size + 1) (.int .i64 n) (.slice ao6 (0) cp6) (.int .i64 i) rfl (by simp [go_sem, r0]) (by simp [go_sem, r1]) (by simp [go_sem, r2])) rfl ?_
        exact ⟨_, _, by rw [HK.out.2.1] <;> rfl, rb_fin HK.out HC.out (y3.out _ _ _ _)⟩
      | succ q =>
        obtain ⟨e, he⟩ : ∃ e, L[q]? = some e := ⟨_, List.getElem?_eq_getElem (by omega)⟩
        obtain ⟨gb2, e2, x0, x1, x2⟩ := HS4.out.ro.at he
        cases e2
        have hlt' : (q : Int) < L.length := by omega
        have hbe : (e.l : Int) ≤ 9223372036854775807 := by have := HHB.out e (List.mem_of_getElem? he); omega
        by_cases hx : (i : Int) < (e.g : Int)
        · have HC := hid ((cut_go he hx).symm.trans hcut.out)
          have HN := hid (gone_next he)
          obtain ⟨m, hm⟩ : ∃ m, e.l = m := ⟨_, rfl⟩
          rw [hm] at x0 hbe
          obtain ⟨u, hu⟩ : ∃ u, m / 2 = u := ⟨_, rfl⟩
          have HU := hid hu
          have HVR : Hid ((vr e : Int) = u) := hid (by simp only [vr, hm, hu])
          obtain ⟨eg, heg⟩ : ∃ eg : Int, (e.g : Int) = eg := ⟨_, rfl⟩
          rw [heg] at x1 hx
          have hsz : w.heap.size + 2 ≤ wr.heap.size := by have := hb3.out.size; simp at this; omega
          have hll : (goneF L (q + 1)).length ≤ 100000000 := by rw [gone_len]; omega
          clear hu hm he heg
          go_wp2_with (first
            | (go_at_call 34; with_reducible (refine (rvar_nat m u HU.out hbe _).mono ?_); rintro e wr ⟨rfl, rfl⟩)
            | (at_builtin; refine append_new (w1 := wr) rfl _ _ rfl (u : Int) rfl (w.heap.size + 2) _ _ rfl (LRow.of_own hown.out) _ rfl (by simp) hll hsz ?_; intro v5 w5 own5 g5 new5))
          go_roundw
          case rel => exact ⟨q, by omega, by go_num, hid (by rw [HN.out, HVR.out]; exact own5.out), HC, hid (below_more2 hb3.out hown.out g5.out)⟩
          case measure => simp only [intOf]; omega
        · have HC : Hid (cutN L i L.length = q + 1) := hid (by rw [← hcut.out]; exact cut_end he hx)
          obtain ⟨eg, heg⟩ : ∃ eg : Int, (e.g : Int) = eg := ⟨_, rfl⟩
          rw [heg] at x1 hx
          have hcl : ((q + 1 : Nat) : Int) ≤ cap := by omega
          clear he heg
          go_wp2_with (at_builtin; refine append_copy rfl _ _ rfl rfl _ rfl (L.take (q + 1)) (HS4.out.ro.cut (by omega)) (by rw [List.length_take]; omega) ?_; intro v6 w6 own6 b6; have y1 := rb_end (rv := .slice (some ⟨gb, 0, none⟩) L.length cap) hb3.out b6.out own6.out hown.out (by omega); obtain ⟨ao6, cp6, rfl, m1, m2, y3⟩ := y1; have q7 := box_cells m1; obtain ⟨⟨g0, g1, g2⟩, g3, g4, g5⟩ := q7; have q8 := box_cells m2; obtain ⟨⟨r0, r1, r2⟩, r3, r4, r5⟩ := q8)
          refine bodyPost_ret (results_box2 rfl _ _ (w.heap.size + 1) (.int .i64 n) (.slice ao6 (q + 1) cp6) (.int .i64 i) rfl (by simp [go_sem, r0]) (by simp [go_sem, r1]) (by simp [go_sem, r2])) rfl ?_
          exact ⟨_, _, by rw [HK.out.2.1] <;> rfl, rb_fin HK.out HC.out (y3.out _ _ _ _)⟩
end

end Go.Proofs.Ytimpoagdidnpiaa
