/-
  keepTruths: the walk.
  decideNext: the variable that is next is decided.
  use: with which conflict clauses played a part last.
-/
import Derived.Test.YtimfjoinjfecjaaGreatP31
import Derived.Stop.RegionWithIn
import Derived.Test.YtimfjoinjfecjaaGreatP30

namespace Go.Proofs.YtimfjoinjfecjaaGreat
open Go.RowKit Go.Shelf
set_option linter.unusedVariables false

attribute [local go_sem] Oper.semAt_some

section
variable {c : SC} {w0 w w' : World} {g g' : G} {s s' : SS} {m m' : MV} {W W' : World} {tr tr' : List Bool} {level : Int} {L : List E}

def NoStop (L : List E) (level : Int) (xs : List Nat) : Prop := ∀ x ∈ xs, ¬ levelF L ((x / 2 : Nat) : Int) ≤ level

theorem kt_app : ∀ (xs : List Nat) (ys : List Nat) (tr : List Bool), NoStop L level xs → keepTF L level (xs ++ ys) tr = keepTF L level ys (keepTF L level xs tr)
  | [], ys, tr, h => rfl
  | x :: xs, ys, tr, h => by
    have h1 : ¬ levelF L ((x / 2 : Nat) : Int) ≤ level := h x (by simp)
    simp only [List.cons_append, keepTF]
    rw [if_neg h1, if_neg h1]
    exact kt_app xs ys _ (fun y hy => h y (by simp [hy]))
theorem kt_stop {xs ys : List Nat} {x : Nat} (h : NoStop L level xs) (hx : levelF L ((x / 2 : Nat) : Int) ≤ level) (tr : List Bool) : keepTF L level (xs ++ x :: ys) tr = keepTF L level xs tr := by
  rw [kt_app xs _ tr h]; simp only [keepTF]; rw [if_pos hx]
theorem kt_snoc {xs : List Nat} {x : Nat} (h : NoStop L level xs) (hx : ¬ levelF L ((x / 2 : Nat) : Int) ≤ level) (tr : List Bool) : keepTF L level (xs ++ [x]) tr = (keepTF L level xs tr).set (x / 2) (!decide (x % 2 = 1)) := by
  rw [kt_app xs _ tr h]; simp only [keepTF]; rw [if_neg hx]
theorem NoStop.snoc {xs : List Nat} {x : Nat} (h : NoStop L level xs) (hx : ¬ levelF L ((x / 2 : Nat) : Int) ≤ level) : NoStop L level (xs ++ [x]) := fun y hy => by
  rcases List.mem_append.1 hy with h1 | h1
  · exact h y h1
  · rw [List.mem_singleton] at h1; subst h1; exact hx

def KtI (c : SC) (m : MV) (w : World) (L : List E) (level : Int) (tr : List Bool) (xs : List Nat) (W : World) : Prop := NoStop L level xs ∧ Kt c m w level (keepTF L level xs tr) W
def KtX (c : SC) (m : MV) (w : World) (L : List E) (level : Int) (tr : List Bool) (cd : Code) (xs : List Nat) (W : World) : Prop := cd = .ret ∧ ∃ ys x, xs = ys ++ [x] ∧ NoStop L level ys ∧ levelF L ((x / 2 : Nat) : Int) ≤ level ∧ Kt c m w level (keepTF L level ys tr) W

theorem Kt.keep (d : Kt c m w level tr W) (d' : Kt c m w level tr' W') (htb : m.tb < w.heap.size) (hk : ∀ j, w.heap.size ≤ j → j < W.heap.size → W'.heap[j]? = W.heap[j]?) {b : Nat} (hb : b < w.heap.size) (hbt : b ≠ m.tb) : Keep2 (w.heap.size + 1 + 1) b W W' :=
  ⟨hk _ (by omega) (by have := d.sz; omega), (d'.blk b hb hbt).trans (d.blk b hb hbt).symm⟩

theorem Kt.tcell (d : Kt c m w level tr W) (b : Below W.heap.size W W') (htb : m.tb < w.heap.size) {u : Nat} (hu : u < c.kw.n) : ∃ zv, W'.cell? ⟨m.tb, u, none⟩ = some zv ∧ W'.frozen? ⟨m.tb, u, none⟩ = false := by
  have z := d.below b htb
  have hl := z.len
  exact ⟨_, (cell_of z.tb).trans (Array.getElem?_eq_getElem (by simp; omega)), frozen_of z.tb⟩

set_option maxRecDepth 100000 in
set_option maxHeartbeats 4000000 in
theorem keep_in (h : Sm c w0 g s m w) (b n len : Nat) (ao : Option Addr) (hlen : s.L.length = len) (hao : litB m.p = ao) (hn : n = c.k.n) (hb : b < w.heap.size) (hbt : b ≠ m.tb) (zs : List (Al n))
    (hseq : ∀ W0, Below w.heap.size w W0 → w.heap.size + 1 + 1 < W0.heap.size → W0.cell? ⟨w.heap.size + 1 + 1, 0, none⟩ = some (.slice ao len len) → SeqStopsK Fence.wide 4 Tryz.prog 134 #[.pointer (some ⟨w.heap.size + 1 + 1, 0, none⟩)] (fun x : Al n => #[Value.int .i64 (x.1.1 : Int), Value.int .i64 (x.1.2 : Int)]) (Keep2 (w.heap.size + 1 + 1) b) (fun ys => ys = zs) (fun pre => pre <+: zs) len W0) :
    CallsIn Fence.wide 5 Tryz.prog 63 #[.pointer (some ⟨c.SB, 0, none⟩), .int .i64 level] w fun e w' => e = .returned (.tuple #[]) ∧ Nx c w0 w m g (s.T (keepTF s.L level (zs.map lof) s.tr)) w' := by
  have htb := h.tb_lt
  have hb2 : Below w.heap.size w ((w.alloc (.cells #[.pointer (some ⟨c.SB, 0, none⟩)] 44)).alloc (.cells #[.int .i64 level] 3)) := by go_grown
  have c0 := bl_cell hb2 h.c0
  have HLs := hid (lits_one (h.W.j.t.below hb2) hlen)
  rw [hao] at HLs
  have H := hid h
  refine callsIn_of_wp_marks Tryz.func63 rfl trivial ?_ rfl
  simp only [Tryz.ntmps63, List.size_toArray, List.length_cons, List.length_nil, Nat.reduceAdd, Nat.reduceSub, Array.replicate_succ, Array.replicate_zero, List.push_toArray, List.append_toArray, List.nil_append, List.cons_append]
  gi_wp2_with (first
    | (refine ⟨trivial, ?_⟩; gi_at_call 50; refine (callsIn_wide.2 HLs.out).mono ?_; rintro e w' ⟨rfl, rfl⟩)
    | (refine ⟨trivial, ?_⟩; gi_at_call 102; refine (backward_in 4 _ _ _ _).mono ?_; rintro e w' ⟨rfl, rfl⟩))
  have hW0 : Below w.heap.size w (((w.alloc (.cells #[.pointer (some ⟨c.SB, 0, none⟩)] 44)).alloc (.cells #[.int .i64 level] 3)).alloc (.cells #[.slice ao len len] 42)) := by go_grown
  have bT := ((Boxed.new w 44 (.pointer (some ⟨c.SB, 0, none⟩))).alloc (.cells #[.int .i64 level] 3)).alloc (.cells #[.slice ao len len] 42)
  have b1 := (Boxed.new (w.alloc (.cells #[.pointer (some ⟨c.SB, 0, none⟩)] 44)) 3 (.int .i64 level)).alloc (.cells #[.slice ao len len] 42)
  have bS := Boxed.new ((w.alloc (.cells #[.pointer (some ⟨c.SB, 0, none⟩)] 44)).alloc (.cells #[.int .i64 level] 3)) 42 (.slice ao len len)
  simp only [World.size_alloc] at b1 bS
  have kt0 : KtI c m w s.L level s.tr [] (((w.alloc (.cells #[.pointer (some ⟨c.SB, 0, none⟩)] 44)).alloc (.cells #[.int .i64 level] 3)).alloc (.cells #[.slice ao len len] 42)) :=
    ⟨fun x hx => by simp at hx, hW0.os, hW0.tape, hW0.output, fun j hj _ => hW0.block j hj, (hW0.block _ htb).trans h.tr.1, h.tr.2, bT, b1, by simp⟩
  refine wpIn_rangeFunc_ownG rfl (by decide) (gf := 134) (lb := #[.pointer (some ⟨w.heap.size + 1 + 1, 0, none⟩)]) rfl trivial (enters_of Tryz.func134 (by kernel_rfl) rfl)
    (hseq _ hW0 (by simp) bS.cell) keep2_t (keep2_b (by simp) (by simp; omega)) (Below.refl _ _) (fun _ => rfl)
    (fun pre W => KtI c m w s.L level s.tr (pre.map lof) W)
    (fun cd pre W => KtX c m w s.L level s.tr cd (pre.map lof) W)
    (fun pre W W' row hs hg hr => ⟨hs.1, hs.2.own hg (fun r e => by have := (hr r e).1; simp at this; omega) htb⟩)
    (fun cd pre W W' row hs hg hr => by
      obtain ⟨a0, ys, x, a1, a2, a3, a4⟩ := hs
      exact ⟨a0, ys, x, a1, a2, a3, a4.own hg (fun r e => by have := (hr r e).1; simp at this; omega) htb⟩)
    kt0
    (fun x => { tmps := #[.pointer (some ⟨c.SB, 0, none⟩), .int .i64 level, .pointer (some ⟨w.heap.size, 0, none⟩), .pointer (some ⟨w.heap.size + 1, 0, none⟩), undef, .int .i64 x.1.2, undef, .pointer (some ⟨c.SB, 0, none⟩), .pointer (some ⟨c.SB, 0, none⟩), .pointer (some ⟨c.SB, 0, none⟩), .pointer (some ⟨c.k.OB, 0, none⟩), .slice ao len len, .func (.func 134) #[] #[.pointer (some ⟨w.heap.size + 1 + 1, 0, none⟩)], .int .i64 x.1.1, .int .i64 x.1.2, undef, undef, undef, undef, undef, undef, undef, undef, undef, undef, undef, undef, undef, undef, undef, undef, undef, undef, undef], defers := [] }) ?assign ?body ?done ?stop
  case assign =>
    intro l x W K hK
    gi_wp2
    exact hK
  case body =>
    rintro l pre ⟨⟨xi, xl⟩, hxn⟩ W ⟨hns, hkt⟩ hlt
    simp only at hxn
    obtain ⟨u, hu⟩ : ∃ u, xl / 2 = u := ⟨_, rfl⟩
    have hun : u < c.kw.n := by have := h.W.j.n; omega
    have hkn : c.kw.n ≤ 1048576 := by have := h.W.j.t.len; have := h.W.j.n; omega
    have hxl : (xl : Int) ≤ 9223372036854775807 := by omega
    have HU := hid hu
    have HK := hid hkt
    have HNS := hid hns
    clear hu hkt hns kt0 bS b1 bT hW0 HLs c0 hb2 hseq h
    gi_wp2_with (first
      | (refine ⟨trivial, ?_⟩; gi_at_call 24; refine (CallsIn.inRound l (callsIn_wide.2 (var_nat xl u HU.out hxl _))).mono ?_; rintro e w3 ⟨rfl, b3⟩))
    have K3 := hid (HK.out.below b3 htb)
    have K4 := hid (K3.out.below (below_drew w3) htb)
    have t3 := K3.out.b0.cell
    have t4 := K3.out.b1.cell
    have s0 : w3.cell? ⟨c.SB, 0, none⟩ = some (.pointer (some ⟨c.k.OB, 0, none⟩)) := by rw [cell_of (K3.out.sb H.out)]; rfl
    have T4 := hid (K4.out.trl H.out)
    obtain ⟨ll, hll⟩ : ∃ ll, levelF s.L (u : Int) = ll := ⟨_, rfl⟩
    have HLL := hid hll
    clear hll
    refine Code.wpIn_mono (Q := fun e a wz => e = .normal ∧ a = { tmps := #[.pointer (some ⟨c.SB, 0, none⟩), .int .i64 level, .pointer (some ⟨w.heap.size, 0, none⟩), .pointer (some ⟨w.heap.size + 1, 0, none⟩), undef, .int .i64 xl, .int .i64 u, .pointer (some ⟨c.SB, 0, none⟩), .pointer (some ⟨c.SB, 0, none⟩), .pointer (some ⟨c.SB, 0, none⟩), .pointer (some ⟨c.k.OB, 0, none⟩), .slice ao len len, .func (.func 134) #[] #[.pointer (some ⟨w.heap.size + 1 + 1, 0, none⟩)], .int .i64 xi, .int .i64 xl, .int .i64 xl, .int .i64 u, .pointer (some ⟨c.SB, 0, none⟩), .pointer (some ⟨c.SB, 0, none⟩), .pointer (some ⟨c.SB, 0, none⟩), .pointer (some ⟨c.k.OB, 0, none⟩), .int .i64 u, .int .i64 ll, .int .i64 level, .bool (decide (ll ≤ level)), undef, undef, undef, undef, undef, undef, undef, undef, undef], defers := [] } ∧ wz = w3.drew) ?_ ?_
    rotate_left
    · gi_region_with (first
        | (refine ⟨trivial, ?_⟩; gi_at_call 88; refine (CallsIn.inRound l (callsIn_wide.2 (level_is T4.out (u : Int) HLL.out))).mono ?_; rintro e w5 ⟨rfl, rfl⟩))
      all_goals exact ⟨rfl, rfl, rfl⟩
    rintro e a w5 ⟨rfl, rfl, rfl⟩
    have HMAP : Hid ((pre ++ [(⟨(xi, xl), hxn⟩ : Al n)]).map lof = pre.map lof ++ [xl]) := hid (by simp [lof])
    have HLU : Hid (levelF s.L ((xl / 2 : Nat) : Int) = ll) := hid (by rw [HU.out]; exact HLL.out)
    have KO4 : Hid (KeepsOthers W w3.drew) := hid ((below_others b3).trans (below_others (below_drew w3)))
    have kb4 : Hid (∀ j, w.heap.size ≤ j → j < W.heap.size → w3.drew.heap[j]? = W.heap[j]?) := hid (fun j _ h2 => b3.block j h2)
    clear t3 t4 s0 T4 K3
    by_cases hle : ll ≤ level
    · have hle' : decide (ll ≤ level) = true := decide_eq_true hle
      gi_wp2
      exact ⟨KO4.out.from _, rfl, pre.map lof, xl, HMAP.out, HNS.out, by rw [HLU.out]; exact hle, K4.out⟩
    · have hle' : decide (ll ≤ level) = false := decide_eq_false hle
      obtain ⟨nb, hnb⟩ : ∃ nb, decide (xl % 2 = 1) = nb := ⟨_, rfl⟩
      have HNB := hid hnb
      have HS : Hid (keepTF s.L level (pre.map lof ++ [xl]) s.tr = (keepTF s.L level (pre.map lof) s.tr).set u (!nb)) := hid (by rw [kt_snoc HNS.out (by rw [HLU.out]; exact hle), HU.out, hnb])
      have HN2 : Hid (NoStop s.L level (pre.map lof ++ [xl])) := hid (HNS.out.snoc (by rw [HLU.out]; exact hle))
      clear hnb
      gi_wp2
      generalize hw4 : w3.drew = w4 at *
      have t3 := K4.out.b0.cell
      have s10 : w4.cell? ⟨c.SB, 10, none⟩ = some (.slice (some ⟨m.tb, 0, none⟩) c.kw.n c.kw.n) := by rw [cell_of (K4.out.sb H.out)]; rfl
      have K5 := hid (K4.out.below (below_drew w4) htb)
      have huI : (u : Int) < c.kw.n := by omega
      have T3 : Hid (w4.drew.cell? ⟨w.heap.size, 0, none⟩ = some (.pointer (some ⟨c.SB, 0, none⟩))) := hid t3
      have S10 : Hid (w4.drew.cell? ⟨c.SB, 10, none⟩ = some (.slice (some ⟨m.tb, 0, none⟩) c.kw.n c.kw.n)) := hid s10
      refine Code.wpIn_mono (Q := fun e a wz => e = .normal ∧ ∃ w6, Below w4.drew.heap.size w4.drew w6 ∧ wz = w6.setCell ⟨m.tb, u, none⟩ (.bool (!nb))) ?_ ?_
      rotate_left
      · clear HK HNS HLL HMAP HLU hle' HS HN2 hle KO4 kb4 hao hlen hb hbt hlt H K4 b3
        gi_region_with (first
          | (refine ⟨trivial, ?_⟩; gi_at_call 103; refine (CallsIn.inRound l (callsIn_wide.2 (neg_nat xl nb HNB.out hxl _))).mono ?_; rintro e w6 ⟨rfl, b6⟩; have z3 := bl_cell b6 T3.out; have z10 := bl_cell b6 S10.out; have Z6 := K5.out.tcell b6 htb hun; obtain ⟨zv, zc, zf⟩ := Z6))
        all_goals exact ⟨rfl, w6, b6, rfl⟩
      rintro e a wz ⟨rfl, w6, b6, rfl⟩
      have K6 := K5.out.below b6 htb
      have K7 := K6.put htb u (!nb)
      have hkb : ∀ j, w.heap.size ≤ j → j < W.heap.size → (w6.setCell ⟨m.tb, u, none⟩ (.bool (!nb))).heap[j]? = W.heap[j]? := fun j h1 h2 => by
        have e1 := kb4.out j h1 h2
        have hl4 : j < w4.heap.size := by
          have := (Array.getElem?_eq_some_iff.1 (show W.heap[j]? = some W.heap[j] from Array.getElem?_eq_getElem h2)).1
          by_cases q : j < w4.heap.size
          · exact q
          · rw [Array.getElem?_eq_none (by omega), Array.getElem?_eq_getElem h2] at e1; cases e1
        rw [set_other _ (by show j ≠ m.tb; omega), b6.block j hl4]
        exact e1
      refine ⟨(KO4.out.trans ((below_others (below_drew w4)).trans ((below_others b6).trans (KeepsOthers.setCell _ _ _)))).from _, Kt.keep HK.out K7 htb hkb hb hbt, ?_⟩
      show KtI c m w s.L level s.tr ((pre ++ [(⟨(xi, xl), hxn⟩ : Al n)]).map lof) _
      rw [HMAP.out]
      exact ⟨HN2.out, by rw [HS.out]; exact K7⟩
  case done =>
    rintro D ys W hD rfl ⟨hns, hkt⟩ hK
    have hD' : w.heap.size + 3 ≤ D := by simp at hD; omega
    have fin := hkt.own (grownBy_putObj' W D (.deferred none)) (fun r e => by cases e; exact hD') htb
    have HE := hid (fin.nx H.out)
    clear fin hkt kt0 bS b1 bT hW0 HLs c0 hb2 hseq h
    gi_wp2
    refine ⟨by simp, .inl ⟨_, _, rfl, run_takeDeferred hK, ?_⟩⟩
    refine ⟨.tuple #[], ?_, rfl, HE.out⟩
    simp [results, Tryz.f63, go_sem]
  case stop =>
    rintro D c' pre W hD ⟨rr, hpre⟩ ⟨rfl, ys, x, e1, hns, hlx, hkt⟩ hK
    have hD' : w.heap.size + 3 ≤ D := by simp at hD; omega
    have fin := hkt.own (grownBy_putObj' W D (.deferred none)) (fun r e => by cases e; exact hD') htb
    have HF : keepTF s.L level (zs.map lof) s.tr = keepTF s.L level ys s.tr := by
      rw [← hpre, List.map_append, e1, List.append_assoc]
      exact kt_stop hns hlx s.tr
    have HE : Hid (Nx c w0 w m g (s.T (keepTF s.L level (zs.map lof) s.tr)) (W.putObj D (.deferred none))) := hid (by rw [HF]; exact fin.nx H.out)
    clear fin HF hkt kt0 bS b1 bT hW0 HLs c0 hb2 hseq h
    gi_wp2
    refine ⟨by simp, .inl ⟨_, _, rfl, run_takeDeferred hK, ?_⟩⟩
    refine ⟨.tuple #[], ?_, rfl, HE.out⟩
    simp [results, Tryz.f63, go_sem]

/-- keepTruths. -/
theorem keep_s (h : Sm c w0 g s m w) (level : Int) : Calls Tryz.prog 63 #[.pointer (some ⟨c.SB, 0, none⟩), .int .i64 level] w fun e w' => e = .returned (.tuple #[]) ∧ Nx c w0 w m g (ktF s level) w' := by
  obtain ⟨zs, hz, hm, hc⟩ := back_lits c.k.n s.L h.W.j.t.lits_lt
  have hln := h.W.j.t.len
  obtain ⟨F, S, r, q, _⟩ := id h.W.j.t
  have hlL := litsF_len s.L
  unfold ktF
  rw [← hm]
  by_cases hL : 0 < s.L.length
  · obtain ⟨b, cap, hp, _⟩ := r.rl.filled (by omega)
    have hb : litB m.p = some ⟨b, 0, none⟩ := by unfold litB; rw [hp]
    have hbm : Mine c.k m.p b := .inr (.inr (.inl (by rw [hp]; rfl)))
    have hbl : b < w.heap.size := (r.mine_lt hbm).2
    have hbt : b ≠ m.tb := fun e => by have := h.t.ft b (.inl hbm); rw [e, h.t.tb] at this; omega
    refine callsIn_wide.1 (keep_in h b c.k.n s.L.length (some ⟨b, 0, none⟩) rfl hb rfl hbl hbt zs (fun W0 hW hsz hcell => ?_))
    refine backward_pre 4 (by decide) (w.heap.size + 1 + 1) b 0 s.L.length c.k.n s.L.length zs hz (by omega) W0 hsz (Nat.lt_of_lt_of_le hbl hW.size) hcell (fun k x hk => ?_)
    obtain ⟨q1, e, q2, q3⟩ := hc k x hk
    refine ⟨q1, ?_⟩
    have hr := r.rl
    rw [hp] at hr
    have hcell : w.cell? ⟨b, x.1.1, none⟩ = some (.int .i64 (x.1.2 : Int)) := hr.at (by simp [litsF, q2, q3])
    rw [Nat.zero_add]
    exact (hW.cell (p := ⟨b, x.1.1, none⟩) hbl).trans hcell
  · have h0 : s.L.length = 0 := by omega
    have hz0 : zs = [] := List.eq_nil_of_length_eq_zero (by omega)
    have hbt : c.SB ≠ m.tb := fun e => by have := h.t.sb; rw [e, h.t.tb] at this; omega
    refine callsIn_wide.1 (keep_in h c.SB c.k.n 0 (litB m.p) h0 rfl rfl h.sb_lt hbt zs (fun W0 hW hsz hcell => ?_))
    rw [hz0]
    exact backward_nil 4 (by decide) (w.heap.size + 1 + 1) c.SB 0 c.k.n (litB m.p) W0 hsz hcell
end
end Go.Proofs.YtimfjoinjfecjaaGreat

namespace Go.Proofs.YtimfjoinjfecjaaGreat
open Go.RowKit Go.Maps
set_option linter.unusedVariables false

/-- The literal of a variable, by the truth that it had last. -/
def litT (tr : List Bool) (v : Nat) : Nat := 2 * v + (if tr.getD v false then 0 else 1)

def decS (n : Nat) (s : SS) (x : Int) : SS := upW s (addL n s.L x (s.lev + 1) (-1)) (decV n s.L s.lev x) s.H

def decF (n : Nat) : Nat → SS → Bool × SS
  | 0, s => (false, s)
  | f + 1, s =>
    if Od.popA s.A s.W then
      (if mayF n s.L (litT s.tr (Od.popV s.A s.W).toNat : Nat) then (true, decS n (upO s s.A (Od.popW s.A s.W)) (litT s.tr (Od.popV s.A s.W).toNat : Nat))
       else decF n f (decS n (upO s s.A (Od.popW s.A s.W)) (litT s.tr (Od.popV s.A s.W).toNat : Nat)))
    else (false, upO s s.A (Od.popW s.A s.W))

theorem pop_some {A : List Int} {W : List Bool} (h : Od.popA A W = true) : ∃ v : Nat, Od.popV A W = v ∧ v < A.length ∧ Od.wt W v = true := by
  unfold Od.popA Od.popV at *
  rcases Od.bestF_is A W A.length with ⟨e, _⟩ | ⟨v, e, q⟩
  · rw [e] at h; simp at h
  · exact ⟨v, e, q.1, q.2.1⟩

theorem pop_count {A : List Int} {W : List Bool} (h : Od.popA A W = true) (hl : W.length = A.length) : (Od.popW A W).count true + 1 = W.count true := by
  obtain ⟨v, e, hv, hw⟩ := pop_some h
  unfold Od.popW
  rw [if_pos h, e, Int.toNat_natCast]
  exact Od.count_false (by omega) hw

section
variable {c : SC} {w0 w w' : World} {g g' : G} {s s' : SS} {m m' : MV}

theorem Od.Ord.lens {k : Od.K} {A : List Int} {W : List Bool} {v : Value} (h : Od.Ord k w A W v) : A.length = k.n ∧ W.length = k.n ∧ k.n ≤ 1048576 := by
  obtain ⟨hs, ⟨P, s, p⟩, hp, q⟩ := h
  exact ⟨s.la, q.lw, s.hn⟩

theorem make_no (v : Nat) (hv : v ≤ 1048575) (w : World) : Calls Tryz.prog 61 #[.int .i64 v, .bool false] w fun e w' => e = .returned (.tuple #[.int .i64 (2 * (v : Int)), .int .i64 0]) ∧ Below w.heap.size w w' := by
  have h1 : ¬ (v : Int) < 0 := by omega
  have h2 : ¬ (1048576 : Int) ≤ v := by omega
  go_enter Tryz.func61, Tryz.ntmps61
  go_wp2
  go_ret2
  exact ⟨rfl, by go_grown⟩
theorem make_yes (v : Nat) (hv : v ≤ 1048575) (w : World) : Calls Tryz.prog 61 #[.int .i64 v, .bool true] w fun e w' => e = .returned (.tuple #[.int .i64 (2 * (v : Int) + 1), .int .i64 0]) ∧ Below w.heap.size w w' := by
  have h1 : ¬ (v : Int) < 0 := by omega
  have h2 : ¬ (1048576 : Int) ≤ v := by omega
  go_enter Tryz.func61, Tryz.ntmps61
  go_wp2
  go_ret2
  exact ⟨rfl, by go_grown⟩
theorem make_is (v x : Nat) (b : Bool) (hv : v ≤ 1048575) (hx : 2 * v + (if b then 0 else 1) = x) (w : World) : Calls Tryz.prog 61 #[.int .i64 v, .bool (!b)] w fun e w' => e = .returned (.tuple #[.int .i64 x, .int .i64 0]) ∧ Below w.heap.size w w' := by
  cases b
  · have e : (x : Int) = 2 * (v : Int) + 1 := by simp at hx; omega
    rw [e]; exact make_yes v hv w
  · have e : (x : Int) = 2 * (v : Int) := by simp at hx; omega
    rw [e]; exact make_no v hv w

theorem Sm.tcell {v : Nat} {b : Bool} (h : Sm c w0 g s m w) (hv : v < c.kw.n) (hb : s.tr.getD v false = b) : w.cell? ⟨m.tb, v, none⟩ = some (.bool b) := by
  rw [cell_of h.tr.1]
  have hl := h.tr.2
  simp only [List.getD_eq_getElem?_getD] at hb
  rw [List.getElem?_eq_getElem (by omega)] at hb
  simp at hb
  simp [List.getElem?_eq_getElem (show v < s.tr.length by omega), hb]

/-- The trail has changed. -/
theorem Sm.trl {L' : List E} {lev' : Nat} {p' : V} (h : Sm c w0 g s m w) (W' : Wa c.k c.kw w' g L' lev' p' s.H) (f : FT c.k c.kw.B m.p p' w w') : Nx c w0 w m g (upW s L' lev' s.H) w' := by
  have := h.wa W' f (fun i hi hg j e h0 hj => h.t.ft j (.inr (.inr (.inl ⟨i, hi, hg, e, h0⟩)))) (fun h0 j e hj => h.t.ft j (.inr (.inr (.inr ⟨h0, e⟩))))
  exact ⟨_, this.1, this.2⟩

theorem sdecide (h : Sm c w0 g s m w) (x : Int) (hx : x ≤ 9223372036854775807) {b : Bool} (hb : mayF c.kw.n s.L x = b) : Calls Tryz.prog 62 #[.pointer (some ⟨c.k.OB, 0, none⟩), .int .i64 x] w fun e w' => e = .returned (.bool b) ∧ Hid (Nx c w0 w m g (decS c.kw.n s x) w') := by
  refine (wa_decide h.W x hx).mono fun e w' q => ?_
  obtain ⟨b', L', lev', p', rfl, ⟨h1, h2, h3⟩, W', F'⟩ := q
  rw [h.W.j.n] at h1 h2 h3
  rw [h2, h3] at W'
  refine ⟨by rw [h1, hb], h.trl W'.out F'.out⟩

def cntOf (s : SS) : Nat := s.W.count true

def NxW (c : SC) (w0 w : World) (m : MV) (g : G) (s : SS) (b : Bool) (w' : World) : Prop := ∃ s', decF c.kw.n (cntOf s + 1) s = (b, s') ∧ Nx c w0 w m g s' w'

theorem decF_yes {n f : Nat} {s : SS} {v x : Nat} (h : Od.popA s.A s.W = true) (hv : Od.popV s.A s.W = v) (hx : litT s.tr v = x) (hm : mayF n s.L (x : Nat) = true) : decF n (f + 1) s = (true, decS n (upO s s.A (Od.popW s.A s.W)) (x : Nat)) := by
  unfold decF; rw [if_pos h, hv, Int.toNat_natCast, hx, if_pos hm]
theorem decF_no {n f : Nat} {s : SS} {v x : Nat} (h : Od.popA s.A s.W = true) (hv : Od.popV s.A s.W = v) (hx : litT s.tr v = x) (hm : mayF n s.L (x : Nat) = false) : decF n (f + 1) s = decF n f (decS n (upO s s.A (Od.popW s.A s.W)) (x : Nat)) := by
  rw [decF, if_pos h, hv, Int.toNat_natCast, hx, if_neg (by rw [hm]; decide)]
theorem decF_none {n f : Nat} {s : SS} (h : Od.popA s.A s.W = false) : decF n (f + 1) s = (false, upO s s.A (Od.popW s.A s.W)) := by
  rw [decF, if_neg (by rw [h]; decide)]

/-- How many wait, as the solver's order has it. -/
def waitOf (c : SC) (w : World) : Nat := match w.cell? ⟨c.ko.OB, 1, none⟩ with
  | some (.slice _ n _) => n
  | _ => 0
theorem wait_of (h : Sm c w0 g s m w) : waitOf c w = cntOf s := by
  obtain ⟨hs, ⟨P, r, p⟩, hp, q⟩ := h.o
  unfold waitOf
  obtain ⟨ao, cap, e⟩ := r.shape
  rw [r.c1, e]
  exact q.cn.symm

set_option maxHeartbeats 4000000 in
theorem decide_s (h : Sm c w0 g s m w) : Calls Tryz.prog 36 #[.pointer (some ⟨c.SB, 0, none⟩)] w fun e w' => ∃ b, e = .returned (.bool b) ∧ Hid (NxW c w0 w m g s b w') := by
  have H := hid h
  clear h
  go_enter Tryz.func36, Tryz.ntmps36
  go_wp2
  go_loopw [] (fun wr => ∃ (f : Nat) (s1 : SS) (m1 : MV), Hid (cntOf s1 + 1 ≤ f) ∧ Hid (decF c.kw.n f s1 = decF c.kw.n (cntOf s + 1) s) ∧ Hid (Sm c w0 g s1 m1 wr) ∧ Hid (Kp w0 w m.ow wr m1.ow)) (fun wr => waitOf c wr)
  case atStart => exact ⟨cntOf s + 1, s, m, hid (Nat.le_refl _), hid rfl, H, hid (Kp.refl _ _ _)⟩
  case round =>
    clear H
    obtain ⟨f, s1, m1, hf, hd, h1, k1⟩ := hrel
    obtain ⟨f', rfl⟩ : ∃ f', f = f' + 1 := ⟨f - 1, by have := hf.out; omega⟩
    have c2 := h1.out.c2
    obtain ⟨la, lw, ln⟩ := h1.out.o.lens
    have hn := h1.out.hn
    have NW := hid (wait_of h1.out)
    cases hp : Od.popA s1.A s1.W
    · obtain ⟨v, hv⟩ : ∃ v, Od.popV s1.A s1.W = v := ⟨_, rfl⟩
      have HD : Hid (decF c.kw.n (cntOf s + 1) s = (false, upO s1 s1.A (Od.popW s1.A s1.W))) := hid (by rw [← hd.out, decF_none hp])
      have C := hid (spop h1.out)
      rw [hp, hv] at C
      clear h1 hd hf la lw ln hn hp hv
      go_wp2_with (first
        | (go_at_call 60; with_reducible (refine C.out.mono ?_); rintro e w5 ⟨rfl, n5⟩))
      go_ret
      refine ⟨false, rfl, ⟨_, HD.out, ?_⟩⟩
      obtain ⟨m5, h5, k5⟩ := n5.out
      exact ⟨m5, h5, k1.out.trans k5⟩
    · obtain ⟨v, hv, hvl, hvw⟩ := pop_some hp
      have hvn : v < c.kw.n := by omega
      have C := hid (spop h1.out)
      rw [hp, hv] at C
      have hpc := hid (pop_count hp (by omega))
      obtain ⟨x, hx⟩ : ∃ x, litT s1.tr v = x := ⟨_, rfl⟩
      obtain ⟨tb, htb⟩ : ∃ tb, s1.tr.getD v false = tb := ⟨_, rfl⟩
      have hxv : 2 * v + (if tb then 0 else 1) = x := by rw [← htb]; exact hx
      have hvl2 : (v : Int) < c.kw.n := by omega
      have hxm : (x : Int) ≤ 9223372036854775807 := by split at hxv <;> omega
      cases hm : mayF c.kw.n s1.L (x : Nat)
      · have HD := hid ((decF_no (f := f') hp hv hx hm).symm.trans hd.out)
        have HM : Hid (mayF c.kw.n (upO s1 s1.A (Od.popW s1.A s1.W)).L (x : Nat) = false) := hid hm
        have HXV := hid hxv
        have HTB : Hid ((upO s1 s1.A (Od.popW s1.A s1.W)).tr.getD v false = tb) := hid htb
        have hcm := hid hf.out
        clear h1 hd hf hp hv hx hm hxv htb hvw
        go_wp2_with (first
          | (go_at_call 60; with_reducible (refine C.out.mono ?_); rintro e w5 ⟨rfl, n5⟩; have n6 := Nx.out n5.out; obtain ⟨m5, h5, k5⟩ := n6; have d10 := h5.out.c10; have dt := h5.out.tcell (v := v) hvn HTB.out)
          | (go_at_call 61; with_reducible (refine (make_is v x tb (by omega) HXV.out _).mono ?_); rintro e w6 ⟨rfl, b6⟩; have n7 := Nx.out (h5.out.xbelow b6); obtain ⟨m6, h6, k6⟩ := n7; have d0 := h6.out.c0)
          | (go_at_call 62; with_reducible (refine (sdecide h6.out (x : Int) hxm HM.out).mono ?_); rintro e w7 ⟨rfl, n8⟩; have n9 := Nx.out n8.out; obtain ⟨m7, h7, k7⟩ := n9))
        have NW7 := wait_of h7.out
        refine ⟨⟨f', _, m7, ?_, HD, h7, hid (((k1.out.trans k5.out).trans k6.out).trans k7.out)⟩, ?_⟩
        · have h1 := hpc.out
          have h2 := hcm.out
          show Hid ((Od.popW s1.A s1.W).count true + 1 ≤ f')
          exact hid (by unfold cntOf at h2; omega)
        · rw [NW7, NW.out]
          show (Od.popW s1.A s1.W).count true < s1.W.count true
          have := hpc.out
          omega
      · have HD := hid ((decF_yes (f := f') hp hv hx hm).symm.trans hd.out)
        have HM : Hid (mayF c.kw.n (upO s1 s1.A (Od.popW s1.A s1.W)).L (x : Nat) = true) := hid hm
        have HXV := hid hxv
        have HTB : Hid ((upO s1 s1.A (Od.popW s1.A s1.W)).tr.getD v false = tb) := hid htb
        have hcm := hid hf.out
        clear h1 hd hf hp hv hx hm hxv htb hvw
        go_wp2_with (first
          | (go_at_call 60; with_reducible (refine C.out.mono ?_); rintro e w5 ⟨rfl, n5⟩; have n6 := Nx.out n5.out; obtain ⟨m5, h5, k5⟩ := n6; have d10 := h5.out.c10; have dt := h5.out.tcell (v := v) hvn HTB.out)
          | (go_at_call 61; with_reducible (refine (make_is v x tb (by omega) HXV.out _).mono ?_); rintro e w6 ⟨rfl, b6⟩; have n7 := Nx.out (h5.out.xbelow b6); obtain ⟨m6, h6, k6⟩ := n7; have d0 := h6.out.c0)
          | (go_at_call 62; with_reducible (refine (sdecide h6.out (x : Int) hxm HM.out).mono ?_); rintro e w7 ⟨rfl, n8⟩; have n9 := Nx.out n8.out; obtain ⟨m7, h7, k7⟩ := n9))
        go_ret
        exact ⟨true, rfl, ⟨_, HD.out.symm, m7, h7.out, ((k1.out.trans k5.out).trans k6.out).trans k7.out⟩⟩
end
end Go.Proofs.YtimfjoinjfecjaaGreat

namespace Go.Proofs.YtimfjoinjfecjaaGreat
open Go.RowKit Go.Maps
set_option linter.unusedVariables false

def use1 (fst : Nat) (x : Int) (fs : List Fa) (n : Int) : List Fa :=
  if (fst : Int) ≤ n then (match fs[(n - fst).toNat]? with
    | some f => fs.set (n - fst).toNat { f with a := x }
    | none => fs) else fs
def usesF (fst : Nat) (x : Int) (fs : List Fa) (xs : List Int) : List Fa := xs.foldl (use1 fst x) fs

theorem use1_len (fst : Nat) (x : Int) (fs : List Fa) (n : Int) : (use1 fst x fs n).length = fs.length := by
  unfold use1
  split
  · split <;> simp
  · rfl
theorem uses_len (fst : Nat) (x : Int) (xs : List Int) : ∀ fs : List Fa, (usesF fst x fs xs).length = fs.length := by
  induction xs with
  | nil => intro fs; rfl
  | cons y xs ih => intro fs; show (usesF fst x (use1 fst x fs y) xs).length = _; rw [ih, use1_len]
theorem uses_next {fst : Nat} {x : Int} {fs : List Fa} {xs : List Int} {q : Nat} {y : Int} (h : xs[q]? = some y) : usesF fst x fs (xs.take (q + 1)) = use1 fst x (usesF fst x fs (xs.take q)) y := by
  rw [List.take_add_one, h]
  simp [usesF, List.foldl_append]

section
variable {c : SC} {w0 w w' : World} {g g' : G} {s s' : SS} {m m' : MV}

theorem OwnL.set_ne {B : Nat} {v : Value} {xs : List Int} {a : Addr} {x : Value} {T : TypeId} (h : OwnL w B v xs) (ht : Typ w a.block T) (hT : T ≠ 3) : OwnL (w.setCell a x) B v xs :=
  OwnL.same h (fun j e => set_other x (fun q => by subst q; exact hT (ht.one (own_typ h e))))

theorem own_row {B : Nat} {ao : Option Addr} {n cap : Nat} {xs : List Int} (h : OwnL w B (.slice ao n cap) xs) : n = xs.length ∧ ∀ q, q < n → ∃ b y, ao = some ⟨b, 0, none⟩ ∧ xs[q]? = some y ∧ w.cell? ⟨b, q, none⟩ = some (.int .i64 y) := by
  rcases h.2 with ⟨e, h2⟩ | ⟨b, cp, cur, e, _, hg, h1, h2, h3, h4⟩
  · cases e; exact ⟨by omega, fun q hq => by omega⟩
  · cases e
    refine ⟨rfl, fun q hq => ⟨b, xs[q], rfl, List.getElem?_eq_getElem hq, ?_⟩⟩
    have : (xs.map (Value.int .i64))[q]? = some (.int .i64 xs[q]) := by simp
    rw [← h4] at this
    rw [cell_of hg, ← this]
    simp [hq]

set_option maxHeartbeats 2000000 in
theorem use_is (h : Sm c w0 g s m w) {B : Nat} {ao : Option Addr} {n cap : Nat} {xs : List Int} (own : OwnL w B (.slice ao n cap) xs) (x : Int) (hx : ∀ y ∈ xs, (c.fst : Int) ≤ y → y - c.fst < s.fs.length) (hfit : ∀ y ∈ xs, -9223372036854775808 ≤ y ∧ y ≤ 9223372036854775807) (hn : n ≤ 1000000) (hf : c.fst ≤ 1000000) (hl : s.fs.length ≤ 1000000) :
    Calls Tryz.prog 53 #[.pointer (some ⟨c.SB, 4, none⟩), .slice ao n cap, .int .i64 x] w fun e w' => e = .returned (.tuple #[]) ∧ Nx c w0 w m g (s.F (usesF c.fst x s.fs xs)) w' := by
  have hlen := hid (own_row own).1
  have HX := hid hx
  have HF := hid hfit
  have H := hid h
  have O := hid own
  clear hx h own hfit
  go_enter Tryz.func53, Tryz.ntmps53
  go_wp2
  go_loopw [10] (fun i wr => ∃ (q : Nat) (m1 : MV), q ≤ n ∧ i = .int .i64 q ∧ Hid (Sm c w0 g (s.F (usesF c.fst x s.fs (xs.take q))) m1 wr) ∧ Hid (Kp w0 w m.ow wr m1.ow) ∧ Hid (OwnL wr B (.slice ao n cap) xs)) (fun i _ => n - (intOf i).toNat)
  case atStart => exact ⟨0, m, Nat.zero_le _, rfl, H, hid (Kp.refl _ _ _), O⟩
  case round =>
    clear H O
    obtain ⟨q, m1, hq, rfl, h1, k1, o1⟩ := hrel
    by_cases hlt : q < n
    · have hlt' : (q : Int) < n := by omega
      obtain ⟨b, y, rfl, hy, hc⟩ := (own_row o1.out).2 q hlt
      have hym := List.mem_of_getElem? hy
      have c4 := h1.out.c4
      obtain ⟨y0, y1⟩ := HF.out y hym
      by_cases hge : (c.fst : Int) ≤ y
      · obtain ⟨i, hi⟩ : ∃ i : Nat, y = c.fst + i := ⟨(y - c.fst).toNat, by omega⟩
        have hil : i < s.fs.length := by have := HX.out y hym hge; omega
        have hil2 : i < (usesF c.fst x s.fs (xs.take q)).length := by rw [uses_len]; exact hil
        obtain ⟨f, hf1⟩ : ∃ f, (usesF c.fst x s.fs (xs.take q))[i]? = some f := ⟨_, List.getElem?_eq_getElem hil2⟩
        have HU : Hid (usesF c.fst x s.fs (xs.take (q + 1)) = (usesF c.fst x s.fs (xs.take q)).set i { f with a := x }) := hid (by
          rw [uses_next hy]
          unfold use1
          have e : (y - c.fst).toNat = i := by omega
          rw [if_pos hge, e, hf1])
        obtain ⟨fb, fcap, efv⟩ : ∃ fb fcap, m1.fv = .slice (some ⟨fb, 0, none⟩) (usesF c.fst x s.fs (xs.take q)).length fcap := by
          rcases h1.out.fa.1.2 with ⟨_, e2⟩ | ⟨b', cp, cur, e, _⟩
          · exact absurd e2 (by show (usesF c.fst x s.fs (xs.take q)).length ≠ 0; omega)
          · exact ⟨b', cp, e⟩
        obtain ⟨m2, h2, k2⟩ := h1.out.xputf efv hil2 x hf1
        have ht : Typ wr fb 105 := own_typ h1.out.fa.1 (by rw [efv]; rfl)
        have o2 := hid (o1.out.set_ne (a := ⟨fb, i * 3 + 2, none⟩) (x := .int .i64 x) ht (by decide))
        have H2 : Hid (Sm c w0 g (s.F (usesF c.fst x s.fs (xs.take (q + 1)))) m2 (wr.setCell ⟨fb, i * 3 + 2, none⟩ (.int .i64 x))) := hid (by rw [HU.out]; exact h2)
        obtain ⟨m3, h3, k3⟩ := H2.out.xbelow (below_drew _)
        have H3 := hid h3
        have K3 := hid ((k1.out.trans k2).trans k3)
        have O3 := hid (OwnL.same (w' := (wr.setCell ⟨fb, i * 3 + 2, none⟩ (.int .i64 x)).drew) o2.out (fun _ _ => rfl))
        have c5 := h1.out.c5
        rw [efv, uses_len] at c5
        obtain ⟨cc, hcc, hsz⟩ : ∃ cc, wr.heap[fb]? = some (.cells cc 105 (0, 0)) ∧ s.fs.length * 3 ≤ cc.size := by
          rcases h1.out.fa.1.2 with ⟨e, _⟩ | ⟨b', cp, cur, e, _, hg, g1, g2, g3, g4⟩
          · rw [efv] at e; cases e
          · rw [efv] at e; cases e
            refine ⟨cur, hg, ?_⟩
            have : (s.F (usesF c.fst x s.fs (xs.take q))).fs.length = s.fs.length := uses_len _ _ _ _
            rw [g3]; omega
        obtain ⟨z, cx⟩ : ∃ z, wr.cell? ⟨fb, i * 3 + 2, none⟩ = some z := by
          rw [cell_of hcc]
          exact ⟨_, Array.getElem?_eq_getElem (by omega)⟩
        have fx : wr.frozen? ⟨fb, i * 3 + 2, none⟩ = false := frozen_of hcc
        have hil' : (i : Int) < s.fs.length := by omega
        obtain ⟨fl, hfl⟩ : ∃ fl, s.fs.length = fl := ⟨_, rfl⟩
        rw [hfl] at hil' hl c5
        subst hi
        have hge' : decide ((c.fst : Int) ≤ c.fst + i) = true := decide_eq_true hge
        have e1 : ((i : Nat) : Int) * 3 + 2 = ((i * 3 + 2 : Nat) : Int) := by omega
        clear h3 k3 H2 h2 k2 hf1 efv ht hcc h1 k1 o1 hy hym hil2 hil hfl hge HU
        have ew : IntKind.i64.wrap ((c.fst : Int) + i - c.fst) = (i : Int) := by rw [IntKind.wrap_i64]; omega
        go_wp2
        go_region
        all_goals go_wp2
        all_goals go_roundw
        all_goals first
          | exact ⟨q + 1, m3, by omega, by go_num, H3, K3, O3⟩
          | (simp only [intOf]; omega)
          | trace_state
      · have hge' : decide ((c.fst : Int) ≤ y) = false := decide_eq_false hge
        have HU : Hid (usesF c.fst x s.fs (xs.take (q + 1)) = usesF c.fst x s.fs (xs.take q)) := hid (by
          rw [uses_next hy]; unfold use1; rw [if_neg hge])
        have H2 : Hid (Sm c w0 g (s.F (usesF c.fst x s.fs (xs.take (q + 1)))) m1 wr) := hid (by rw [HU.out]; exact h1.out)
        clear hge hy hym h1 HU
        go_wp2
        go_roundw
        case rel => exact ⟨q + 1, m1, by omega, by go_num, H2, k1, o1⟩
        case measure => simp only [intOf]; omega
    · have HT : Hid (xs.take q = xs) := hid (List.take_of_length_le (by rw [← hlen.out]; omega))
      have HE : Hid (Nx c w0 w m g (s.F (usesF c.fst x s.fs xs)) wr) := hid ⟨m1, by have := h1.out; rw [HT.out] at this; exact this, k1.out⟩
      clear h1 k1 o1 HT
      go_wp2
      go_end0
      exact ⟨rfl, HE.out⟩
end
end Go.Proofs.YtimfjoinjfecjaaGreat
