/-
  keepTruths: the walk.
-/
import Derived.Test.YtimfjoinjfecjaaGreatQ26
import Derived.Stop.RegionWithIn

namespace Go.Proofs.YtimfjoinjfecjaaGreat
open Go.RowKit Go.Shelf
set_option linter.unusedVariables false

attribute [local go_sem] Oper.semAt_some

section
variable {c : SC} {w0 w w' : World} {g g' : G} {s s' : SS} {m m' : MV} {W W' : World} {tr tr' : List Bool} {level : Int} {L : List E}

def NoStop (L : List E) (level : Int) (xs : List Nat) : Prop := ∀ x ∈ xs, ¬ levelF L ((x / 2 : Nat) : Int) ≤ level

theorem kt_app : ∀ (xs : List Nat) (ys : List Nat) (tr : List Bool), NoStop L level xs → keepTF L level (xs ++ ys) tr = keepTF L level ys (keepTF L level xs tr)
  | [], ys, tr, h => rfl
  | x :: xs, ys, tr, h => by
    have h1 : ¬ levelF L ((x / 2 : Nat) : Int) ≤ level := h x (by simp)
    simp only [List.cons_append, keepTF]
    rw [if_neg h1, if_neg h1]
    exact kt_app xs ys _ (fun y hy => h y (by simp [hy]))
theorem kt_stop {xs ys : List Nat} {x : Nat} (h : NoStop L level xs) (hx : levelF L ((x / 2 : Nat) : Int) ≤ level) (tr : List Bool) : keepTF L level (xs ++ x :: ys) tr = keepTF L level xs tr := by
  rw [kt_app xs _ tr h]; simp only [keepTF]; rw [if_pos hx]
theorem kt_snoc {xs : List Nat} {x : Nat} (h : NoStop L level xs) (hx : ¬ levelF L ((x / 2 : Nat) : Int) ≤ level) (tr : List Bool) : keepTF L level (xs ++ [x]) tr = (keepTF L level xs tr).set (x / 2) (!decide (x % 2 = 1)) := by
  rw [kt_app xs _ tr h]; simp only [keepTF]; rw [if_neg hx]
theorem NoStop.snoc {xs : List Nat} {x : Nat} (h : NoStop L level xs) (hx : ¬ levelF L ((x / 2 : Nat) : Int) ≤ level) : NoStop L level (xs ++ [x]) := fun y hy => by
  rcases List.mem_append.1 hy with h1 | h1
  · exact h y h1
  · rw [List.mem_singleton] at h1; subst h1; exact hx

def KtI (c : SC) (m : MV) (w : World) (L : List E) (level : Int) (tr : List Bool) (xs : List Nat) (W : World) : Prop := NoStop L level xs ∧ Kt c m w level (keepTF L level xs tr) W
def KtX (c : SC) (m : MV) (w : World) (L : List E) (level : Int) (tr : List Bool) (cd : Code) (xs : List Nat) (W : World) : Prop := cd = .ret ∧ ∃ ys x, xs = ys ++ [x] ∧ NoStop L level ys ∧ levelF L ((x / 2 : Nat) : Int) ≤ level ∧ Kt c m w level (keepTF L level ys tr) W

theorem Kt.keep (d : Kt c m w level tr W) (d' : Kt c m w level tr' W') (htb : m.tb < w.heap.size) (hk : ∀ j, w.heap.size ≤ j → j < W.heap.size → W'.heap[j]? = W.heap[j]?) {b : Nat} (hb : b < w.heap.size) (hbt : b ≠ m.tb) : Keep2 (w.heap.size + 1 + 1) b W W' :=
  ⟨hk _ (by omega) (by have := d.sz; omega), (d'.blk b hb hbt).trans (d.blk b hb hbt).symm⟩

theorem Kt.tcell (d : Kt c m w level tr W) (b : Below W.heap.size W W') (htb : m.tb < w.heap.size) {u : Nat} (hu : u < c.kw.n) : ∃ zv, W'.cell? ⟨m.tb, u, none⟩ = some zv ∧ W'.frozen? ⟨m.tb, u, none⟩ = false := by
  have z := d.below b htb
  have hl := z.len
  exact ⟨_, (cell_of z.tb).trans (Array.getElem?_eq_getElem (by simp; omega)), frozen_of z.tb⟩

set_option maxRecDepth 100000 in
set_option maxHeartbeats 4000000 in
theorem keep_in (h : Sm c w0 g s m w) (b n len : Nat) (ao : Option Addr) (hlen : s.L.length = len) (hao : litB m.p = ao) (hn : n = c.k.n) (hb : b < w.heap.size) (hbt : b ≠ m.tb) (zs : List (Al n))
    (hseq : ∀ W0, Below w.heap.size w W0 → w.heap.size + 1 + 1 < W0.heap.size → W0.cell? ⟨w.heap.size + 1 + 1, 0, none⟩ = some (.slice ao len len) → SeqStopsK Fence.wide 4 Tryz.prog 134 #[.pointer (some ⟨w.heap.size + 1 + 1, 0, none⟩)] (fun x : Al n => #[Value.int .i64 (x.1.1 : Int), Value.int .i64 (x.1.2 : Int)]) (Keep2 (w.heap.size + 1 + 1) b) (fun ys => ys = zs) (fun pre => pre <+: zs) len W0) :
    CallsIn Fence.wide 5 Tryz.prog 63 #[.pointer (some ⟨c.SB, 0, none⟩), .int .i64 level] w fun e w' => e = .returned (.tuple #[]) ∧ Nx c w0 w m g (s.T (keepTF s.L level (zs.map lof) s.tr)) w' := by
  have htb := h.tb_lt
  have hb2 : Below w.heap.size w ((w.alloc (.cells #[.pointer (some ⟨c.SB, 0, none⟩)] 44)).alloc (.cells #[.int .i64 level] 3)) := by go_grown
  have c0 := bl_cell hb2 h.c0
  have HLs := hid (lits_one (h.W.j.t.below hb2) hlen)
  rw [hao] at HLs
  have H := hid h
  refine callsIn_of_wp_marks Tryz.func63 rfl trivial ?_ rfl
  simp only [Tryz.ntmps63, List.size_toArray, List.length_cons, List.length_nil, Nat.reduceAdd, Nat.reduceSub, Array.replicate_succ, Array.replicate_zero, List.push_toArray, List.append_toArray, List.nil_append, List.cons_append]
  gi_wp2_with (first
    | (refine ⟨trivial, ?_⟩; gi_at_call 50; refine (callsIn_wide.2 HLs.out).mono ?_; rintro e w' ⟨rfl, rfl⟩)
    | (refine ⟨trivial, ?_⟩; gi_at_call 102; refine (backward_in 4 _ _ _ _).mono ?_; rintro e w' ⟨rfl, rfl⟩))
  have hW0 : Below w.heap.size w (((w.alloc (.cells #[.pointer (some ⟨c.SB, 0, none⟩)] 44)).alloc (.cells #[.int .i64 level] 3)).alloc (.cells #[.slice ao len len] 42)) := by go_grown
  have bT := ((Boxed.new w 44 (.pointer (some ⟨c.SB, 0, none⟩))).alloc (.cells #[.int .i64 level] 3)).alloc (.cells #[.slice ao len len] 42)
  have b1 := (Boxed.new (w.alloc (.cells #[.pointer (some ⟨c.SB, 0, none⟩)] 44)) 3 (.int .i64 level)).alloc (.cells #[.slice ao len len] 42)
  have bS := Boxed.new ((w.alloc (.cells #[.pointer (some ⟨c.SB, 0, none⟩)] 44)).alloc (.cells #[.int .i64 level] 3)) 42 (.slice ao len len)
  simp only [World.size_alloc] at b1 bS
  have kt0 : KtI c m w s.L level s.tr [] (((w.alloc (.cells #[.pointer (some ⟨c.SB, 0, none⟩)] 44)).alloc (.cells #[.int .i64 level] 3)).alloc (.cells #[.slice ao len len] 42)) :=
    ⟨fun x hx => by simp at hx, hW0.os, hW0.tape, hW0.output, fun j hj _ => hW0.block j hj, (hW0.block _ htb).trans h.tr.1, h.tr.2, bT, b1, by simp⟩
  refine wpIn_rangeFunc_ownG rfl (by decide) (gf := 134) (lb := #[.pointer (some ⟨w.heap.size + 1 + 1, 0, none⟩)]) rfl trivial (enters_of Tryz.func134 (by kernel_rfl) rfl)
    (hseq _ hW0 (by simp) bS.cell) keep2_t (keep2_b (by simp) (by simp; omega)) (Below.refl _ _) (fun _ => rfl)
    (fun pre W => KtI c m w s.L level s.tr (pre.map lof) W)
    (fun cd pre W => KtX c m w s.L level s.tr cd (pre.map lof) W)
    (fun pre W W' row hs hg hr => ⟨hs.1, hs.2.own hg (fun r e => by have := (hr r e).1; simp at this; omega) htb⟩)
    (fun cd pre W W' row hs hg hr => by
      obtain ⟨a0, ys, x, a1, a2, a3, a4⟩ := hs
      exact ⟨a0, ys, x, a1, a2, a3, a4.own hg (fun r e => by have := (hr r e).1; simp at this; omega) htb⟩)
    kt0
    (fun x => { tmps := #[.pointer (some ⟨c.SB, 0, none⟩), .int .i64 level, .pointer (some ⟨w.heap.size, 0, none⟩), .pointer (some ⟨w.heap.size + 1, 0, none⟩), undef, .int .i64 x.1.2, undef, .pointer (some ⟨c.SB, 0, none⟩), .pointer (some ⟨c.SB, 0, none⟩), .pointer (some ⟨c.SB, 0, none⟩), .pointer (some ⟨c.k.OB, 0, none⟩), .slice ao len len, .func (.func 134) #[] #[.pointer (some ⟨w.heap.size + 1 + 1, 0, none⟩)], .int .i64 x.1.1, .int .i64 x.1.2, undef, undef, undef, undef, undef, undef, undef, undef, undef, undef, undef, undef, undef, undef, undef, undef, undef, undef, undef], defers := [] }) ?assign ?body ?done ?stop
  case assign =>
    intro l x W K hK
    gi_wp2
    exact hK
  case body =>
    rintro l pre ⟨⟨xi, xl⟩, hxn⟩ W ⟨hns, hkt⟩ hlt
    simp only at hxn
    obtain ⟨u, hu⟩ : ∃ u, xl / 2 = u := ⟨_, rfl⟩
    have hun : u < c.kw.n := by have := h.W.j.n; omega
    have hkn : c.kw.n ≤ 1048576 := by have := h.W.j.t.len; have := h.W.j.n; omega
    have hxl : (xl : Int) ≤ 9223372036854775807 := by omega
    have HU := hid hu
    have HK := hid hkt
    have HNS := hid hns
    clear hu hkt hns kt0 bS b1 bT hW0 HLs c0 hb2 hseq h
    gi_wp2_with (first
      | (refine ⟨trivial, ?_⟩; gi_at_call 24; refine (CallsIn.inRound l (callsIn_wide.2 (var_nat xl u HU.out hxl _))).mono ?_; rintro e w3 ⟨rfl, b3⟩))
    have K3 := hid (HK.out.below b3 htb)
    have K4 := hid (K3.out.below (below_drew w3) htb)
    have t3 := K3.out.b0.cell
    have t4 := K3.out.b1.cell
    have s0 : w3.cell? ⟨c.SB, 0, none⟩ = some (.pointer (some ⟨c.k.OB, 0, none⟩)) := by rw [cell_of (K3.out.sb H.out)]; rfl
    have T4 := hid (K4.out.trl H.out)
    obtain ⟨ll, hll⟩ : ∃ ll, levelF s.L (u : Int) = ll := ⟨_, rfl⟩
    have HLL := hid hll
    clear hll
    refine Code.wpIn_mono (Q := fun e a wz => e = .normal ∧ a = { tmps := #[.pointer (some ⟨c.SB, 0, none⟩), .int .i64 level, .pointer (some ⟨w.heap.size, 0, none⟩), .pointer (some ⟨w.heap.size + 1, 0, none⟩), undef, .int .i64 xl, .int .i64 u, .pointer (some ⟨c.SB, 0, none⟩), .pointer (some ⟨c.SB, 0, none⟩), .pointer (some ⟨c.SB, 0, none⟩), .pointer (some ⟨c.k.OB, 0, none⟩), .slice ao len len, .func (.func 134) #[] #[.pointer (some ⟨w.heap.size + 1 + 1, 0, none⟩)], .int .i64 xi, .int .i64 xl, .int .i64 xl, .int .i64 u, .pointer (some ⟨c.SB, 0, none⟩), .pointer (some ⟨c.SB, 0, none⟩), .pointer (some ⟨c.SB, 0, none⟩), .pointer (some ⟨c.k.OB, 0, none⟩), .int .i64 u, .int .i64 ll, .int .i64 level, .bool (decide (ll ≤ level)), undef, undef, undef, undef, undef, undef, undef, undef, undef], defers := [] } ∧ wz = w3.drew) ?_ ?_
    rotate_left
    · gi_region_with (first
        | (refine ⟨trivial, ?_⟩; gi_at_call 88; refine (CallsIn.inRound l (callsIn_wide.2 (level_is T4.out (u : Int) HLL.out))).mono ?_; rintro e w5 ⟨rfl, rfl⟩))
      all_goals exact ⟨rfl, rfl, rfl⟩
    rintro e a w5 ⟨rfl, rfl, rfl⟩
    have HMAP : Hid ((pre ++ [(⟨(xi, xl), hxn⟩ : Al n)]).map lof = pre.map lof ++ [xl]) := hid (by simp [lof])
    have HLU : Hid (levelF s.L ((xl / 2 : Nat) : Int) = ll) := hid (by rw [HU.out]; exact HLL.out)
    have KO4 : Hid (KeepsOthers W w3.drew) := hid ((below_others b3).trans (below_others (below_drew w3)))
    have kb4 : Hid (∀ j, w.heap.size ≤ j → j < W.heap.size → w3.drew.heap[j]? = W.heap[j]?) := hid (fun j _ h2 => b3.block j h2)
    clear t3 t4 s0 T4 K3
    by_cases hle : ll ≤ level
    · have hle' : decide (ll ≤ level) = true := decide_eq_true hle
      gi_wp2
      exact ⟨KO4.out.from _, rfl, pre.map lof, xl, HMAP.out, HNS.out, by rw [HLU.out]; exact hle, K4.out⟩
    · have hle' : decide (ll ≤ level) = false := decide_eq_false hle
      obtain ⟨nb, hnb⟩ : ∃ nb, decide (xl % 2 = 1) = nb := ⟨_, rfl⟩
      have HNB := hid hnb
      have HS : Hid (keepTF s.L level (pre.map lof ++ [xl]) s.tr = (keepTF s.L level (pre.map lof) s.tr).set u (!nb)) := hid (by rw [kt_snoc HNS.out (by rw [HLU.out]; exact hle), HU.out, hnb])
      have HN2 : Hid (NoStop s.L level (pre.map lof ++ [xl])) := hid (HNS.out.snoc (by rw [HLU.out]; exact hle))
      clear hnb
      gi_wp2
      generalize hw4 : w3.drew = w4 at *
      have t3 := K4.out.b0.cell
      have s10 : w4.cell? ⟨c.SB, 10, none⟩ = some (.slice (some ⟨m.tb, 0, none⟩) c.kw.n c.kw.n) := by rw [cell_of (K4.out.sb H.out)]; rfl
      have K5 := hid (K4.out.below (below_drew w4) htb)
      have huI : (u : Int) < c.kw.n := by omega
      have T3 : Hid (w4.drew.cell? ⟨w.heap.size, 0, none⟩ = some (.pointer (some ⟨c.SB, 0, none⟩))) := hid t3
      have S10 : Hid (w4.drew.cell? ⟨c.SB, 10, none⟩ = some (.slice (some ⟨m.tb, 0, none⟩) c.kw.n c.kw.n)) := hid s10
      refine Code.wpIn_mono (Q := fun e a wz => e = .normal ∧ ∃ w6, Below w4.drew.heap.size w4.drew w6 ∧ wz = w6.setCell ⟨m.tb, u, none⟩ (.bool (!nb))) ?_ ?_
      rotate_left
      · clear HK HNS HLL HMAP HLU hle' HS HN2 hle KO4 kb4 hao hlen hb hbt hlt H K4 b3
        gi_region_with (first
          | (refine ⟨trivial, ?_⟩; gi_at_call 103; refine (CallsIn.inRound l (callsIn_wide.2 (neg_nat xl nb HNB.out hxl _))).mono ?_; rintro e w6 ⟨rfl, b6⟩; have z3 := bl_cell b6 T3.out; have z10 := bl_cell b6 S10.out; have Z6 := K5.out.tcell b6 htb hun; obtain ⟨zv, zc, zf⟩ := Z6))
        all_goals exact ⟨rfl, w6, b6, rfl⟩
      rintro e a wz ⟨rfl, w6, b6, rfl⟩
      have K6 := K5.out.below b6 htb
      have K7 := K6.put htb u (!nb)
      have hkb : ∀ j, w.heap.size ≤ j → j < W.heap.size → (w6.setCell ⟨m.tb, u, none⟩ (.bool (!nb))).heap[j]? = W.heap[j]? := fun j h1 h2 => by
        have e1 := kb4.out j h1 h2
        have hl4 : j < w4.heap.size := by
          have := (Array.getElem?_eq_some_iff.1 (show W.heap[j]? = some W.heap[j] from Array.getElem?_eq_getElem h2)).1
          by_cases q : j < w4.heap.size
          · exact q
          · rw [Array.getElem?_eq_none (by omega), Array.getElem?_eq_getElem h2] at e1; cases e1
        rw [set_other _ (by show j ≠ m.tb; omega), b6.block j hl4]
        exact e1
      refine ⟨(KO4.out.trans ((below_others (below_drew w4)).trans ((below_others b6).trans (KeepsOthers.setCell _ _ _)))).from _, Kt.keep HK.out K7 htb hkb hb hbt, ?_⟩
      show KtI c m w s.L level s.tr ((pre ++ [(⟨(xi, xl), hxn⟩ : Al n)]).map lof) _
      rw [HMAP.out]
      exact ⟨HN2.out, by rw [HS.out]; exact K7⟩
  case done =>
    rintro D ys W hD rfl ⟨hns, hkt⟩ hK
    have hD' : w.heap.size + 3 ≤ D := by simp at hD; omega
    have fin := hkt.own (grownBy_putObj' W D (.deferred none)) (fun r e => by cases e; exact hD') htb
    have HE := hid (fin.nx H.out)
    clear fin hkt kt0 bS b1 bT hW0 HLs c0 hb2 hseq h
    gi_wp2
    refine ⟨by simp, .inl ⟨_, _, rfl, run_takeDeferred hK, ?_⟩⟩
    refine ⟨.tuple #[], ?_, rfl, HE.out⟩
    simp [results, Tryz.f63, go_sem]
  case stop =>
    rintro D c' pre W hD ⟨rr, hpre⟩ ⟨rfl, ys, x, e1, hns, hlx, hkt⟩ hK
    have hD' : w.heap.size + 3 ≤ D := by simp at hD; omega
    have fin := hkt.own (grownBy_putObj' W D (.deferred none)) (fun r e => by cases e; exact hD') htb
    have HF : keepTF s.L level (zs.map lof) s.tr = keepTF s.L level ys s.tr := by
      rw [← hpre, List.map_append, e1, List.append_assoc]
      exact kt_stop hns hlx s.tr
    have HE : Hid (Nx c w0 w m g (s.T (keepTF s.L level (zs.map lof) s.tr)) (W.putObj D (.deferred none))) := hid (by rw [HF]; exact fin.nx H.out)
    clear fin HF hkt kt0 bS b1 bT hW0 HLs c0 hb2 hseq h
    gi_wp2
    refine ⟨by simp, .inl ⟨_, _, rfl, run_takeDeferred hK, ?_⟩⟩
    refine ⟨.tuple #[], ?_, rfl, HE.out⟩
    simp [results, Tryz.f63, go_sem]

/-- keepTruths. -/
theorem keep_s (h : Sm c w0 g s m w) (level : Int) : Calls Tryz.prog 63 #[.pointer (some ⟨c.SB, 0, none⟩), .int .i64 level] w fun e w' => e = .returned (.tuple #[]) ∧ Nx c w0 w m g (ktF s level) w' := by
  obtain ⟨zs, hz, hm, hc⟩ := back_lits c.k.n s.L h.W.j.t.lits_lt
  have hln := h.W.j.t.len
  obtain ⟨F, S, r, q, _⟩ := id h.W.j.t
  have hlL := litsF_len s.L
  unfold ktF
  rw [← hm]
  by_cases hL : 0 < s.L.length
  · obtain ⟨b, cap, hp, _⟩ := r.rl.filled (by omega)
    have hb : litB m.p = some ⟨b, 0, none⟩ := by unfold litB; rw [hp]
    have hbm : Mine c.k m.p b := .inr (.inr (.inl (by rw [hp]; rfl)))
    have hbl : b < w.heap.size := (r.mine_lt hbm).2
    have hbt : b ≠ m.tb := fun e => by have := h.t.ft b (.inl hbm); rw [e, h.t.tb] at this; omega
    refine callsIn_wide.1 (keep_in h b c.k.n s.L.length (some ⟨b, 0, none⟩) rfl hb rfl hbl hbt zs (fun W0 hW hsz hcell => ?_))
    refine backward_pre 4 (by decide) (w.heap.size + 1 + 1) b 0 s.L.length c.k.n s.L.length zs hz (by omega) W0 hsz (Nat.lt_of_lt_of_le hbl hW.size) hcell (fun k x hk => ?_)
    obtain ⟨q1, e, q2, q3⟩ := hc k x hk
    refine ⟨q1, ?_⟩
    have hr := r.rl
    rw [hp] at hr
    have hcell : w.cell? ⟨b, x.1.1, none⟩ = some (.int .i64 (x.1.2 : Int)) := hr.at (by simp [litsF, q2, q3])
    rw [Nat.zero_add]
    exact (hW.cell (p := ⟨b, x.1.1, none⟩) hbl).trans hcell
  · have h0 : s.L.length = 0 := by omega
    have hz0 : zs = [] := List.eq_nil_of_length_eq_zero (by omega)
    have hbt : c.SB ≠ m.tb := fun e => by have := h.t.sb; rw [e, h.t.tb] at this; omega
    refine callsIn_wide.1 (keep_in h c.SB c.k.n 0 (litB m.p) h0 rfl rfl h.sb_lt hbt zs (fun W0 hW hsz hcell => ?_))
    rw [hz0]
    exact backward_nil 4 (by decide) (w.heap.size + 1 + 1) c.SB 0 c.k.n (litB m.p) W0 hsz hcell
end
end Go.Proofs.YtimfjoinjfecjaaGreat
