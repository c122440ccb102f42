/-
  The way down the trail.
-/
import Derived.Test.YtimfjoinjfecjaaGreatQ17

namespace Go.Proofs.YtimfjoinjfecjaaGreat
open Go.RowKit Go.Shelf
set_option linter.unusedVariables false

attribute [local go_sem] Oper.semAt_some

set_option maxRecDepth 100000 in
set_option maxHeartbeats 2000000 in
theorem backward1_pre (N : Nat) (hN : 1 ≤ N) (l Bs b off cap n len : Nat) (zs : List (Al n)) (hz : zs.length = len) (hlen : len ≤ 1048576) (J Jx : List (Al n) → World → Prop)
    (hY : ∀ pre x W, J pre W → pre.length < len → YieldAt Fence.wide (N - 1) Tryz.prog l #[.int .i64 (x.1.1 : Int), .int .i64 (x.1.2 : Int)] W fun e W' =>
      (e = .returned (.bool true) ∧ J (pre ++ [x]) W' ∧ Keep2 Bs b W W') ∨ (e = .returned (.bool false) ∧ Jx (pre ++ [x]) W'))
    (W : World) (hBs : W.cell? ⟨Bs, 0, none⟩ = some (.slice (some ⟨b, off, none⟩) len cap)) (hc : ∀ k (x : Al n), zs[k]? = some x → x.1.1 + k + 1 = len ∧ W.cell? ⟨b, off + x.1.1, none⟩ = some (.int .i64 (x.1.2 : Int))) (h0 : J [] W) :
    CallsIn Fence.wide N Tryz.prog 134 #[.func (.yield l) #[] #[], .pointer (some ⟨Bs, 0, none⟩)] W fun e W' => (∃ v, e = .returned v) ∧
      ((∃ ys, ys = zs ∧ J ys W') ∨ (∃ pre, pre <+: zs ∧ Jx pre W')) := by
  refine callsIn_of_wp Tryz.func134 rfl trivial ?_ rfl
  simp only [Tryz.ntmps134, List.size_toArray, List.length_cons, List.length_nil, Nat.reduceAdd, Nat.reduceSub, Array.replicate_succ, Array.replicate_zero, List.push_toArray, List.append_toArray, List.nil_append, List.cons_append]
  gi_wp2
  gi_loopw [3] (fun i wr => ∃ (k : Nat) (c : Int), k ≤ len ∧ i = .int .i64 c ∧ Hid (c + k + 1 = len) ∧ J (zs.take k) wr ∧ Hid (Keep2 Bs b W wr))
    (fun i _ => ((intOf i) + 1).toNat)
  case atStart => exact ⟨0, (len : Int) - 1, Nat.zero_le _, rfl, hid (by omega), by simpa using h0, hid ⟨rfl, rfl⟩⟩
  case round =>
    obtain ⟨k, c, hk, rfl, hck, hJs, hkp⟩ := hrel
    by_cases hlt : k < len
    · have hzk : k < zs.length := by omega
      obtain ⟨hx1, hx2⟩ := hc k zs[k] (List.getElem?_eq_getElem hzk)
      have HT : Hid (zs.take k ++ [zs[k]] = zs.take (k + 1)) := hid (by simp)
      revert hx1 hx2 HT
      generalize zs[k] = x
      obtain ⟨⟨xi, xl⟩, hxn⟩ := x
      intro hx1 hx2 HT
      simp only at hx1 hx2
      obtain rfl : c = (xi : Int) := by have := hck.out; omega
      have hxi : (xi : Int) < len := by omega
      have hcB := (keep2_cell hkp.out).1 hBs
      have hcx := (keep2_cell hkp.out).2 hx2
      obtain ⟨fn, tmps, assign, body, hy, hR⟩ := hY _ ⟨(xi, xl), hxn⟩ wr hJs (by simp; omega)
      dsimp only at hy
      gi_wp2
      refine hR.mono ?_
      rintro e W3 (⟨rfl, hJ3, hk3⟩ | ⟨rfl, hJx3⟩)
      · gi_wp2
        go_roundw
        case rel => exact ⟨k + 1, (xi : Int) - 1, by omega, rfl, hid (by omega), by rw [← HT.out]; exact hJ3, hid (keep2_t hkp.out hk3)⟩
        case measure => simp only [intOf]; omega
      · gi_wp2
        refine bodyPost_ret (results_none rfl _ _ _) rfl ?_
        exact ⟨⟨_, rfl⟩, .inr ⟨_, by rw [HT.out]; exact List.take_prefix _ _, hJx3⟩⟩
    · obtain rfl : k = len := by omega
      obtain rfl : c = -1 := by have := hck.out; omega
      have HT : Hid (zs.take k = zs) := hid (List.take_of_length_le (by omega))
      gi_wp2
      go_end0
      exact ⟨⟨_, rfl⟩, .inl ⟨_, rfl, by rw [← HT.out]; exact hJs⟩⟩

theorem backward_pre (N : Nat) (hN : 1 ≤ N) (Bs b off cap n len : Nat) (zs : List (Al n)) (hz : zs.length = len) (hlen : len ≤ 1048576) (w : World) (hBl : Bs < w.heap.size) (hbl : b < w.heap.size)
    (hBs : w.cell? ⟨Bs, 0, none⟩ = some (.slice (some ⟨b, off, none⟩) len cap)) (hc : ∀ k (x : Al n), zs[k]? = some x → x.1.1 + k + 1 = len ∧ w.cell? ⟨b, off + x.1.1, none⟩ = some (.int .i64 (x.1.2 : Int))) :
    SeqStopsK Fence.wide N Tryz.prog 134 #[.pointer (some ⟨Bs, 0, none⟩)] (fun x : Al n => #[Value.int .i64 (x.1.1 : Int), Value.int .i64 (x.1.2 : Int)]) (Keep2 Bs b) (fun ys => ys = zs) (fun pre => pre <+: zs) len w := fun l J Jx W hW _ _ hY h0 =>
  backward1_pre N hN l Bs b off cap n len zs hz hlen J Jx hY W ((hW.cell (p := ⟨Bs, 0, none⟩) hBl).trans hBs) (fun k x hk => ⟨(hc k x hk).1, (hW.cell (p := ⟨b, off + x.1.1, none⟩) hbl).trans (hc k x hk).2⟩) h0


def litB (p : V) : Option Addr := match p.l with
  | .slice ao _ _ => ao
  | _ => none

theorem lits_one {k : K} {w : World} {L : List E} {lev : Nat} {p : V} (t : Trl k w L lev p) {m : Nat} (hm : L.length = m) : Calls Tryz.prog 50 #[.pointer (some ⟨k.OB, 0, none⟩)] w fun e w' => e = .returned (.slice (litB p) m m) ∧ w' = w := by
  subst hm
  have hl := litsF_len L
  have ha : (p.l = .slice none 0 0 ∧ litsF L = []) ∨ ∃ g n cap, p.l = .slice (some ⟨g, 0, none⟩) n cap := by
    obtain ⟨F, S, s, _⟩ := id t
    rcases s.rl with h | ⟨b, cap, cur, h, _⟩
    · exact .inl h
    · exact .inr ⟨b, _, cap, h⟩
  refine (lits_is t).mono fun e w' h => ?_
  obtain ⟨ao, rfl, h, rfl⟩ := h
  obtain ⟨h1, h2⟩ := h.out
  refine ⟨?_, rfl⟩
  have e : ao = litB p := by
    unfold litB
    rcases ha with ⟨h3, h4⟩ | ⟨g, n, cap, h3⟩
    · rw [h3] at h2 ⊢
      rcases h1 with ⟨h5, _⟩ | ⟨b, cap, cur, h5, _⟩
      · exact (Value.slice.inj h5).1
      · rw [h5] at h2; simp [Value.ownBlock] at h2
    · rw [h3] at h2 ⊢
      rcases h1 with ⟨h5, _⟩ | ⟨b, cap, cur, h5, _⟩
      · rw [h5] at h2; simp [Value.ownBlock] at h2
      · rw [(Value.slice.inj h5).1] at h2 ⊢
        simp [Value.ownBlock] at h2
        rw [h2]
  rw [e]

section
variable {k : SK} {w0 w w1 w' : World} {kt : K} {L : List E} {lev : Nat} {p : V} {cls : List (List Int)} {s s' : PS} {v v' : SV} {n : Nat}

def lof {n : Nat} (x : Al n) : Nat := x.1.2

/-- What stands while the way goes down. -/
structure Dn (k : SK) (w0 : World) (n : Nat) (w : World) (v : SV) (s1 : PS) (v1 : SV) (x : Int) (bb : Bool) (W : World) : Prop where
  r : Rn k w0 n W s1 v1
  f : SF k v v1 w W
  ap : ∀ j, MineS k v1 j → j < w.heap.size ∨ w.heap.size + 4 ≤ j
  bs : Boxed W w.heap.size 151 (.pointer (some ⟨k.SB, 0, none⟩))
  c1 : Boxed W (w.heap.size + 1) 3 (.int .i64 x)
  c2 : Boxed W (w.heap.size + 1 + 1) 4 (.bool bb)
  sz : w.heap.size + 4 ≤ W.heap.size

theorem box_as {W W' : World} {B : Nat} {t : TypeId} {x : Value} (h : Boxed W B t x) (e : W'.heap[B]? = W.heap[B]?) : Boxed W' B t x := by
  unfold Boxed at h ⊢; rw [e]; exact h

theorem Dn.step {x : Int} {bb : Bool} {W W' : World} {s1 s2 : PS} {v1 v2 : SV} (d : Dn k w0 n w v s1 v1 x bb W) (r : Rn k w0 n W' s2 v2) (f : SF k v1 v2 W W') (hB : k.B = w0.heap.size) {b : Nat} (hb : b < w0.heap.size) :
    Dn k w0 n w v s2 v2 x bb W' ∧ KeepsOthers W W' ∧ Keep2 (w.heap.size + 1 + 1 + 1) b W W' := by
  have hsz := d.sz
  have hblk : ∀ j, w.heap.size ≤ j → j < w.heap.size + 4 → W'.heap[j]? = W.heap[j]? := fun j h1 h2 => f.block j (by omega) (fun c => by have := d.ap j c; omega)
  have hlow := d.r.r.lo
  refine ⟨⟨r, d.f.trans f, fun j hj => ?_, box_as d.bs (hblk _ (by omega) (by omega)), box_as d.c1 (hblk _ (by omega) (by omega)), box_as d.c2 (hblk _ (by omega) (by omega)), Nat.le_trans hsz f.size⟩, d.r.r.ko f, hblk _ (by omega) (by omega), ?_⟩
  · by_cases hlt : j < W.heap.size
    · exact d.ap j (f.new j hlt hj)
    · right; omega
  · have h1 := d.r.b.size
    exact f.block b (by omega) (fun c => by have := (d.r.r.mine c).1; omega)

theorem Dn.own {x : Int} {bb : Bool} {W W' : World} {s1 : PS} {v1 : SV} {row : Option Nat} (d : Dn k w0 n w v s1 v1 x bb W) (hw : w0.heap.size ≤ w.heap.size) (g : W.grownBy W' row) (hr : ∀ r, row = some r → w.heap.size + 4 ≤ r ∧ ∃ o : Obj, W.heap[r]? = some o ∧ o.isCells = false) : Dn k w0 n w v s1 v1 x bb W' := by
  have hsz := d.sz
  have hm : ∀ j, MineS k v1 j → W'.heap[j]? = W.heap[j]? := fun j hj => by
    obtain ⟨_, h2, c, T, h3⟩ := d.r.r.mine hj
    refine g.block j h2 (fun e => ?_)
    obtain ⟨_, o, ho, hc⟩ := hr j e.symm
    rw [h3] at ho
    cases ho
    cases hc
  have hbox : ∀ j, j < w.heap.size + 4 → W'.heap[j]? = W.heap[j]? := fun j hj => g.block j (by omega) (fun e => by have := (hr j e.symm).1; omega)
  refine ⟨⟨d.r.r.same hm, ⟨g.os.trans d.r.b.os, g.tape.trans d.r.b.tape, g.output.trans d.r.b.output, Nat.le_trans d.r.b.size g.size, fun j hj => (hbox j (by omega)).trans (d.r.b.block j hj)⟩, d.r.wf, d.r.m2⟩, ⟨g.os.trans d.f.os, g.tape.trans d.f.tape, g.output.trans d.f.output, Nat.le_trans d.f.size g.size, fun j hj hmn => (hbox j (by omega)).trans (d.f.block j hj hmn), d.f.new⟩, d.ap, box_as d.bs (hbox _ (by omega)), box_as d.c1 (hbox _ (by omega)), box_as d.c2 (hbox _ (by omega)), Nat.le_trans hsz g.size⟩

/-- The results are stored. -/
theorem Dn.store {x y : Int} {bb cc : Bool} {W : World} {s1 : PS} {v1 : SV} (d : Dn k w0 n w v s1 v1 x bb W) (hw : w0.heap.size ≤ w.heap.size) : Dn k w0 n w v s1 v1 y cc ((W.setCell ⟨w.heap.size + 1, 0, none⟩ (.int .i64 y)).setCell ⟨w.heap.size + 1 + 1, 0, none⟩ (.bool cc)) := by
  have hsz := d.sz
  have hblk : ∀ j, j ≠ w.heap.size + 1 → j ≠ w.heap.size + 1 + 1 → ((W.setCell ⟨w.heap.size + 1, 0, none⟩ (.int .i64 y)).setCell ⟨w.heap.size + 1 + 1, 0, none⟩ (.bool cc)).heap[j]? = W.heap[j]? := fun j h1 h2 => by rw [set_other _ h2, set_other _ h1]
  refine ⟨⟨d.r.r.same (fun j hj => hblk j (by have := d.ap j hj; omega) (by have := d.ap j hj; omega)), ⟨d.r.b.os, d.r.b.tape, d.r.b.output, Nat.le_trans d.r.b.size (by simp [World.setCell]), fun j hj => (hblk j (by omega) (by omega)).trans (d.r.b.block j hj)⟩, d.r.wf, d.r.m2⟩, ⟨d.f.os, d.f.tape, d.f.output, Nat.le_trans d.f.size (by simp [World.setCell]), fun j hj hm => (hblk j (by omega) (by omega)).trans (d.f.block j hj hm), d.f.new⟩, d.ap, box_as d.bs (hblk _ (by omega) (by omega)), ?_, ?_, by simp [World.setCell]; omega⟩
  · have h1 := d.c1.set (.int .i64 y)
    exact box_as h1 (set_other _ (by simp))
  · have h2 : Boxed (W.setCell ⟨w.heap.size + 1, 0, none⟩ (.int .i64 y)) (w.heap.size + 1 + 1) 4 (.bool bb) := box_as d.c2 (set_other _ (by simp))
    exact h2.set (.bool cc)

theorem Dn.fin {x : Int} {bb : Bool} {W : World} {s1 : PS} {v1 : SV} {D : Nat} {o : Obj} (d : Dn k w0 n w v s1 v1 x bb W) (hw : w0.heap.size ≤ w.heap.size) (hD : w.heap.size + 4 ≤ D) (hK : W.heap[D]? = some o) (ho : o.isCells = false := by rfl) : Dn k w0 n w v s1 v1 x bb (W.putObj D (.deferred none)) :=
  d.own hw (grownBy_putObj' W D (.deferred none)) (fun r e => by cases e; exact ⟨hD, o, hK, ho⟩)

def DownE (k : SK) (w0 : World) (n : Nat) (w : World) (v : SV) (o : Option (Nat × PS)) (e : Ending) (w' : World) : Prop :=
  (∃ x s1 v1, o = some (x, s1) ∧ e = .returned (.tuple #[.int .i64 (x : Int), .bool true]) ∧ Rn k w0 n w' s1 v1 ∧ SF k v v1 w w') ∨
  (o = none ∧ e = .returned (.tuple #[.int .i64 0, .bool false]) ∧ ∃ s1 v1, Rn k w0 n w' s1 v1 ∧ SF k v v1 w w')

def DnI (k : SK) (w0 : World) (n : Nat) (L : List E) (lev : Nat) (cls : List (List Int)) (w : World) (s : PS) (v : SV) (ls : List Nat) (W : World) : Prop :=
  ∃ s1 v1, downsP L lev cls s ls = .inl s1 ∧ s.op - ls.length ≤ s1.op ∧ Dn k w0 n w v s1 v1 0 false W

def DnX (k : SK) (w0 : World) (n : Nat) (L : List E) (lev : Nat) (cls : List (List Int)) (w : World) (s : PS) (v : SV) (c : Code) (ls : List Nat) (W : World) : Prop :=
  (c = .ret ∧ ∃ x s1 v1, downsP L lev cls s ls = .inr (some (x, s1)) ∧ Dn k w0 n w v s1 v1 (x : Nat) true W) ∨ ((c = .ret ∨ c = .exit 0) ∧ downsP L lev cls s ls = .inr none ∧ ∃ s1 v1, Dn k w0 n w v s1 v1 0 false W)

theorem downs_one (L : List E) (lev : Nat) (cls : List (List Int)) (s : PS) (x : Nat) : downsP L lev cls s [x] = downP L lev cls s x := by
  simp only [downsP]
  cases downP L lev cls s x <;> rfl

theorem downs_snoc {ls : List Nat} {s1 : PS} (h : downsP L lev cls s ls = .inl s1) (x : Nat) : downsP L lev cls s (ls ++ [x]) = downP L lev cls s1 x := by
  rw [downs_app ls [x] s s1 h, downs_one]

theorem down_lev {x : Nat} (h : levelF L ((x / 2 : Nat) : Int) ≠ lev) : downP L lev cls s x = .inr none := by unfold downP; rw [if_neg h]
theorem down_pass {x : Nat} (h : levelF L ((x / 2 : Nat) : Int) = lev) (hm : s.mrk (x / 2) ≠ 1) : downP L lev cls s x = .inl (passP s x) := by unfold downP; rw [if_pos h, if_neg hm]
theorem down_found {x : Nat} (h : levelF L ((x / 2 : Nat) : Int) = lev) (hm : s.mrk (x / 2) = 1) (ho : s.op = 1) : downP L lev cls s x = .inr (some (x, passP s x)) := by unfold downP; rw [if_pos h, if_pos hm, if_pos ho]
theorem down_repl {x : Nat} (h : levelF L ((x / 2 : Nat) : Int) = lev) (hm : s.mrk (x / 2) = 1) (ho : s.op ≠ 1) {s2 : PS} (hr : replP L lev cls (passP s x) x = (true, s2)) : downP L lev cls s x = .inl s2 := by unfold downP; rw [if_pos h, if_pos hm, if_neg ho, hr]; rfl
theorem down_norepl {x : Nat} (h : levelF L ((x / 2 : Nat) : Int) = lev) (hm : s.mrk (x / 2) = 1) (ho : s.op ≠ 1) {s2 : PS} (hr : replP L lev cls (passP s x) x = (false, s2)) : downP L lev cls s x = .inr none := by unfold downP; rw [if_pos h, if_pos hm, if_neg ho, hr]; rfl

theorem pass_rn (c : Cm k w0 kt L lev p cls) (h : Rn k w0 kt.n w s v) {cs cs' : Array Value} {pb' : Option Nat} {u x : Nat} (hcs : w.heap[k.SB]? = some (.cells cs 124 (0, 0))) (he : MarkEnd w k.SB 3 124 cs v.pb s.mrk u 2 pb' cs' w') (hu : x / 2 = u) : Rn k w0 kt.n w' (passP s x) { v with pb := pb' } ∧ SF k v { v with pb := pb' } w w' := by
  subst hu
  obtain ⟨a, b⟩ := h.r.putmk he hcs
  obtain ⟨e1, e2⟩ := h.wf.pass h.m2 x
  exact ⟨Rn.next c h a b e1 e2, b⟩

theorem Rn.sb (h : Rn k w0 n w s v) : ∃ cs, w.heap[k.SB]? = some (.cells cs 124 (0, 0)) ∧ cs[3]? = some (ptrO v.pb) ∧ ∀ b, v.pb = some b → b ≠ k.SB := by
  obtain ⟨cs, a, _, _, _, b, _⟩ := h.r.blk
  exact ⟨cs, a, b, fun q e => by have := h.r.pl q e; omega⟩

set_option maxRecDepth 100000 in
set_option maxHeartbeats 4000000 in
theorem goDown_in (c : Cm k w0 kt L lev p cls) (h : Rn k w0 kt.n w s v) (hl0 : lev ≠ 0) (hop : -800000 ≤ s.op) (hL : 0 < L.length) (b : Nat) (hb : litB p = some ⟨b, 0, none⟩) (hbl : b < w0.heap.size) (zs : List (Al kt.n)) (hz : zs.length = L.length)
    (hcz : ∀ q (x : Al kt.n), zs[q]? = some x → x.1.1 + q + 1 = L.length ∧ w.cell? ⟨b, 0 + x.1.1, none⟩ = some (.int .i64 (x.1.2 : Int))) :
    CallsIn Fence.wide 5 Tryz.prog 82 #[.pointer (some ⟨k.SB, 0, none⟩)] w fun e w' => DownE k w0 kt.n w v (endP (downsP L lev cls s (zs.map lof))) e w' := by
  have HC := hid c
  have hkn := c.hn
  have hln := c.t.len
  have hw0 := h.b.size
  have hb3 : Below w.heap.size w (((w.alloc (.cells #[.pointer (some ⟨k.SB, 0, none⟩)] 151)).alloc (.cells #[.int .i64 0] 3)).alloc (.cells #[.bool false] 4)) := by go_grown
  have R3 := hid (h.below hb3)
  obtain ⟨c0, _⟩ := c.cell R3.out
  have HLs := hid (lits_one (c.trl R3.out) rfl)
  rw [hb] at HLs
  refine callsIn_of_wp_marks Tryz.func82 rfl trivial ?_ rfl
  simp only [Tryz.ntmps82, List.size_toArray, List.length_cons, List.length_nil, Nat.reduceAdd, Nat.reduceSub, Array.replicate_succ, Array.replicate_zero, List.push_toArray, List.append_toArray, List.nil_append, List.cons_append]
  gi_wp2_with (first
    | (refine ⟨trivial, ?_⟩; gi_at_call 50; refine (callsIn_wide.2 HLs.out).mono ?_; rintro e w' ⟨rfl, rfl⟩)
    | (refine ⟨trivial, ?_⟩; gi_at_call 102; refine (backward_in 4 _ _ _ _).mono ?_; rintro e w' ⟨rfl, rfl⟩))
  have hW0 : Below w.heap.size w ((((w.alloc (.cells #[.pointer (some ⟨k.SB, 0, none⟩)] 151)).alloc (.cells #[.int .i64 0] 3)).alloc (.cells #[.bool false] 4)).alloc (.cells #[.slice (some ⟨b, 0, none⟩) L.length L.length] 42)) := by go_grown
  have bT := (((Boxed.new w 151 (.pointer (some ⟨k.SB, 0, none⟩))).alloc (.cells #[.int .i64 0] 3)).alloc (.cells #[.bool false] 4)).alloc (.cells #[.slice (some ⟨b, 0, none⟩) L.length L.length] 42)
  have b1 := ((Boxed.new (w.alloc (.cells #[.pointer (some ⟨k.SB, 0, none⟩)] 151)) 3 (.int .i64 0)).alloc (.cells #[.bool false] 4)).alloc (.cells #[.slice (some ⟨b, 0, none⟩) L.length L.length] 42)
  have b2 := (Boxed.new ((w.alloc (.cells #[.pointer (some ⟨k.SB, 0, none⟩)] 151)).alloc (.cells #[.int .i64 0] 3)) 4 (.bool false)).alloc (.cells #[.slice (some ⟨b, 0, none⟩) L.length L.length] 42)
  have bS := Boxed.new (((w.alloc (.cells #[.pointer (some ⟨k.SB, 0, none⟩)] 151)).alloc (.cells #[.int .i64 0] 3)).alloc (.cells #[.bool false] 4)) 42 (.slice (some ⟨b, 0, none⟩) L.length L.length)
  simp only [World.size_alloc] at b1 b2 bS
  have dn0 : DnI k w0 kt.n L lev cls w s v [] ((((w.alloc (.cells #[.pointer (some ⟨k.SB, 0, none⟩)] 151)).alloc (.cells #[.int .i64 0] 3)).alloc (.cells #[.bool false] 4)).alloc (.cells #[.slice (some ⟨b, 0, none⟩) L.length L.length] 42)) :=
    ⟨s, v, rfl, by simp, h.below hW0, SF.below hW0, fun j hj => .inl (h.r.mine hj).2.1, bT, b1, b2, by simp⟩
  refine wpIn_rangeFunc_ownG rfl (by decide) (gf := 134) (lb := #[.pointer (some ⟨w.heap.size + 1 + 1 + 1, 0, none⟩)]) rfl trivial (enters_of Tryz.func134 (by kernel_rfl) rfl)
    (backward_pre 4 (by decide) (w.heap.size + 1 + 1 + 1) b 0 L.length kt.n L.length zs hz (by omega) _ (by simp) (by simp; omega) bS.cell (fun q x hq => ⟨(hcz q x hq).1, (hW0.cell (p := ⟨b, 0 + x.1.1, none⟩) (show b < w.heap.size by omega)).trans (hcz q x hq).2⟩)) keep2_t (keep2_b (by simp) (by simp; omega)) (Below.refl _ _) (fun _ => rfl)
    (fun pre W => DnI k w0 kt.n L lev cls w s v (pre.map lof) W)
    (fun c pre W => DnX k w0 kt.n L lev cls w s v c (pre.map lof) W)
    (fun pre W W' row hs hg hr => by obtain ⟨s1, v1, a1, a2, a3⟩ := hs; exact ⟨s1, v1, a1, a2, a3.own hw0 hg (fun r e => ⟨by have := (hr r e).1; simp at this; omega, (hr r e).2⟩)⟩)
    (fun c pre W W' row hs hg hr => by
      rcases hs with ⟨a0, x, s1, v1, a1, a3⟩ | ⟨a0, a1, s1, v1, a3⟩
      · exact .inl ⟨a0, x, s1, v1, a1, a3.own hw0 hg (fun r e => ⟨by have := (hr r e).1; simp at this; omega, (hr r e).2⟩)⟩
      · exact .inr ⟨a0, a1, s1, v1, a3.own hw0 hg (fun r e => ⟨by have := (hr r e).1; simp at this; omega, (hr r e).2⟩)⟩)
    dn0
    (fun x => { tmps := #[.pointer (some ⟨k.SB, 0, none⟩), .pointer (some ⟨w.heap.size, 0, none⟩), .pointer (some ⟨w.heap.size + 1, 0, none⟩), .pointer (some ⟨w.heap.size + 1 + 1, 0, none⟩), undef, .int .i64 x.1.2, undef, undef, .pointer (some ⟨k.SB, 0, none⟩), .pointer (some ⟨k.SB, 0, none⟩), .pointer (some ⟨k.SB, 0, none⟩), .pointer (some ⟨kt.OB, 0, none⟩), .slice (some ⟨b, 0, none⟩) L.length L.length, .func (.func 134) #[] #[.pointer (some ⟨w.heap.size + 1 + 1 + 1, 0, none⟩)], .int .i64 x.1.1, .int .i64 x.1.2, undef, undef, undef, undef, undef, undef, undef, undef, undef, undef, undef, undef, undef, undef, undef, undef, undef, undef, undef, undef, undef, undef, undef, undef, undef, undef, undef, undef, undef, undef, undef, undef, undef, undef, undef], defers := [] }) ?assign ?body ?done ?stop
  case assign =>
    intro l x W K hK
    gi_wp2
    exact hK
  case body =>
    rintro l pre ⟨⟨xi, xl⟩, hxn⟩ W ⟨s1, v1, hd1, ho1, hdn⟩ hlt
    simp only at hxn
    obtain ⟨u, hu⟩ : ∃ u, xl / 2 = u := ⟨_, rfl⟩
    have hun : u < kt.n := by omega
    have hxl : (xl : Int) ≤ 9223372036854775807 := by omega
    have HU := hid hu
    have HD := hid hdn
    have HD1 := hid hd1
    have HO1 := hid ho1
    clear hu hdn hd1 ho1 dn0 bS b1 b2 bT hW0 HLs c0 R3 hb3 hcz h c
    gi_wp2_with (first
      | (refine ⟨trivial, ?_⟩; gi_at_call 24; refine (CallsIn.inRound l (callsIn_wide.2 (var_nat xl u HU.out hxl _))).mono ?_; rintro e w3 ⟨rfl, b3⟩))
    have HD3 := hid (HD.out.step (HD.out.r.below b3) (SF.below b3) HC.out.hB hbl)
    have t3 := HD3.out.1.bs.cell
    obtain ⟨c0, c2⟩ := HC.out.cell HD3.out.1.r
    have HT3 := hid (HC.out.trl HD3.out.1.r)
    obtain ⟨ll, hll⟩ : ∃ ll, levelF L (u : Int) = ll := ⟨_, rfl⟩
    have HLL := hid hll
    clear hll
    have hD4 := HD3.out.1.step (HD3.out.1.r.below (below_drew w3)) (SF.below (below_drew w3)) HC.out.hB hbl
    have HD4 := hid hD4
    have HT4 := hid (HT3.out.below (below_drew w3))
    have t4 : w3.drew.cell? ⟨w.heap.size, 0, none⟩ = some (.pointer (some ⟨k.SB, 0, none⟩)) := hD4.1.bs.cell
    obtain ⟨c04, c24⟩ := HC.out.cell hD4.1.r
    obtain ⟨bl, hbl2⟩ : ∃ bl, (ll != (lev : Int)) = bl := ⟨_, rfl⟩
    have HBL := hid hbl2
    clear hbl2 hD4 t3 c0 c2
    obtain ⟨vals, hvals⟩ : ∃ vals : List Value, vals = [.pointer (some ⟨k.SB, 0, none⟩), .pointer (some ⟨k.SB, 0, none⟩), .pointer (some ⟨k.SB, 0, none⟩), .pointer (some ⟨kt.OB, 0, none⟩), .int .i64 u, .int .i64 ll, .pointer (some ⟨k.SB, 0, none⟩), .pointer (some ⟨k.SB, 0, none⟩), .pointer (some ⟨k.SB, 2, none⟩), .int .i64 lev, .bool bl] := ⟨_, rfl⟩
    have hinj := ownAt_inj 18 vals
    have o18 : ownAt 18 vals 18 = some (0, .pointer (some ⟨k.SB, 0, none⟩)) := by rw [hvals]; rfl
    have o19 : ownAt 18 vals 19 = some (1, .pointer (some ⟨k.SB, 0, none⟩)) := by rw [hvals]; rfl
    have o20 : ownAt 18 vals 20 = some (2, .pointer (some ⟨k.SB, 0, none⟩)) := by rw [hvals]; rfl
    have o21 : ownAt 18 vals 21 = some (3, .pointer (some ⟨kt.OB, 0, none⟩)) := by rw [hvals]; rfl
    have o22 : ownAt 18 vals 22 = some (4, .int .i64 u) := by rw [hvals]; rfl
    have o23 : ownAt 18 vals 23 = some (5, .int .i64 ll) := by rw [hvals]; rfl
    have o24 : ownAt 18 vals 24 = some (6, .pointer (some ⟨k.SB, 0, none⟩)) := by rw [hvals]; rfl
    have o25 : ownAt 18 vals 25 = some (7, .pointer (some ⟨k.SB, 0, none⟩)) := by rw [hvals]; rfl
    have o26 : ownAt 18 vals 26 = some (8, .pointer (some ⟨k.SB, 2, none⟩)) := by rw [hvals]; rfl
    have o27 : ownAt 18 vals 27 = some (9, .int .i64 lev) := by rw [hvals]; rfl
    have o28 : ownAt 18 vals 28 = some (10, .bool bl) := by rw [hvals]; rfl
    have n1 : ownAt 18 vals 1 = none := by rw [hvals]; rfl
    have n6 : ownAt 18 vals 6 = none := by rw [hvals]; rfl
    refine regionIn_by (fun W4 => W4 = w3.drew) (by kernel_rfl) (by kernel_rfl) (ownAt 18 vals) { tmps := #[.pointer (some ⟨k.SB, 0, none⟩), .pointer (some ⟨w.heap.size, 0, none⟩), .pointer (some ⟨w.heap.size + 1, 0, none⟩), .pointer (some ⟨w.heap.size + 1 + 1, 0, none⟩), undef, .int .i64 xl, .int .i64 u, undef, .pointer (some ⟨k.SB, 0, none⟩), .pointer (some ⟨k.SB, 0, none⟩), .pointer (some ⟨k.SB, 0, none⟩), .pointer (some ⟨kt.OB, 0, none⟩), .slice (some ⟨b, 0, none⟩) L.length L.length, .func (.func 134) #[] #[.pointer (some ⟨w.heap.size + 1 + 1 + 1, 0, none⟩)], .int .i64 xi, .int .i64 xl, .int .i64 xl, .int .i64 u, .pointer (some ⟨k.SB, 0, none⟩), .pointer (some ⟨k.SB, 0, none⟩), .pointer (some ⟨k.SB, 0, none⟩), .pointer (some ⟨kt.OB, 0, none⟩), .int .i64 u, .int .i64 ll, .pointer (some ⟨k.SB, 0, none⟩), .pointer (some ⟨k.SB, 0, none⟩), .pointer (some ⟨k.SB, 2, none⟩), .int .i64 lev, .bool bl, undef, undef, undef, undef, undef, undef, undef, undef, undef, undef, undef, undef, undef, undef, undef, undef, undef, undef, undef, undef, undef, undef], defers := [] } (by rw [hvals]; kernel_rfl) rfl ?_ ?_
    · intro ops Q' A hops hA
      have sz : ∀ s, s < 51 → s < A.tmps.size := fun s h => by rw [hA]; exact h
      have av1 : A.eval (.tmp 1) = .pointer (some ⟨w.heap.size, 0, none⟩) := by rw [hA]; rfl
      have av6 : A.eval (.tmp 6) = .int .i64 u := by rw [hA]; rfl
      clear hA hops
      refine (AllFrom.cons (m := 1) rfl ?_ (AllFrom.cons (m := 2) rfl ?_ (AllFrom.cons (m := 3) rfl ?_ (AllFrom.cons (m := 4) rfl ?_ (AllFrom.cons (m := 5) rfl ?_ (AllFrom.cons (m := 6) rfl ?_ (AllFrom.cons (m := 7) rfl ?_ (AllFrom.cons (m := 8) rfl ?_ (AllFrom.cons (m := 9) rfl ?_ (AllFrom.cons (m := 10) rfl ?_ (AllFrom.cons (m := 11) rfl ?_ AllFrom.nil)))))))))))
      · intro ho listed wv hlt hdep hR
        exact step_valueIn hinj ho (wanted_none rfl) rfl o18 hlt (fun c h => by cases h) (op_load (.inl rfl) rfl ((mk_base n1).trans av1) (hR ▸ t4)) hR
      · intro ho listed wv hlt hdep hR
        exact step_valueIn hinj ho (wanted_none rfl) rfl o19 hlt (fun c h => by cases h) (op_nil rfl (mk_dep o18 (hdep ⟨0, .data⟩ (Array.mem_of_getElem? (i := 0) rfl) rfl) (sz 18 (by decide)))) hR
      · intro ho listed wv hlt hdep hR
        exact step_valueIn hinj ho (wanted_none rfl) rfl o20 hlt (fun c h => by cases h) (op_f0 rfl (mk_dep o19 (hdep ⟨1, .data⟩ (Array.mem_of_getElem? (i := 0) rfl) rfl) (sz 19 (by decide)))) hR
      · intro ho listed wv hlt hdep hR
        exact step_valueIn hinj ho (wanted_none rfl) rfl o21 hlt (fun c h => by cases h) (op_load (.inr (.inl rfl)) rfl (mk_dep o20 (hdep ⟨2, .data⟩ (Array.mem_of_getElem? (i := 0) rfl) rfl) (sz 20 (by decide))) (hR ▸ c04)) hR
      · intro ho listed wv hlt hdep hR
        exact step_valueIn hinj ho (wanted_none rfl) rfl o22 hlt (fun c h => by cases h) (op_move rfl ((mk_base n6).trans av6)) hR
      · intro ho listed wv hlt hdep hR
        exact step_callIn hinj ho (wanted_none rfl) rfl o23 hlt (fun c h => by cases h) (op_call rfl rfl (args2 (mk_dep o21 (hdep ⟨3, .data⟩ (Array.mem_of_getElem? (i := 0) rfl) rfl) (sz 21 (by decide))) (mk_dep o22 (hdep ⟨4, .data⟩ (Array.mem_of_getElem? (i := 1) rfl) rfl) (sz 22 (by decide)))) (enters_of Tryz.func88 (by kernel_rfl) rfl)) ((level_is (hR ▸ HT4.out) _ HLL.out).mono fun e w' h => ⟨h.1, h.2.trans hR⟩)
      · intro ho listed wv hlt hdep hR
        exact step_valueIn hinj ho (wanted_none rfl) rfl o24 hlt (fun c h => by cases h) (op_load (.inl rfl) rfl ((mk_base n1).trans av1) (hR ▸ t4)) hR
      · intro ho listed wv hlt hdep hR
        exact step_valueIn hinj ho (wanted_none rfl) rfl o25 hlt (fun c h => by cases h) (op_nil rfl (mk_dep o24 (hdep ⟨6, .data⟩ (Array.mem_of_getElem? (i := 0) rfl) rfl) (sz 24 (by decide)))) hR
      · intro ho listed wv hlt hdep hR
        exact step_valueIn hinj ho (wanted_none rfl) rfl o26 hlt (fun c h => by cases h) (op_f2 rfl (mk_dep o25 (hdep ⟨7, .data⟩ (Array.mem_of_getElem? (i := 0) rfl) rfl) (sz 25 (by decide)))) hR
      · intro ho listed wv hlt hdep hR
        exact step_valueIn hinj ho (wanted_none rfl) rfl o27 hlt (fun c h => by cases h) (op_load (.inr (.inr rfl)) rfl (mk_dep o26 (hdep ⟨8, .data⟩ (Array.mem_of_getElem? (i := 0) rfl) rfl) (sz 26 (by decide))) (hR ▸ c24)) hR
      · intro ho listed wv hlt hdep hR
        exact step_valueIn hinj ho (wanted_none rfl) rfl o28 hlt (fun c h => by cases h) (op_neq rfl (mk_dep o23 (hdep ⟨5, .data⟩ (Array.mem_of_getElem? (i := 0) rfl) rfl) (sz 23 (by decide))) (mk_dep o27 (hdep ⟨9, .data⟩ (Array.mem_of_getElem? (i := 1) rfl) rfl) (sz 27 (by decide))) HBL.out) hR
    · rintro W4 rfl
      clear hinj o18 o19 o20 o21 o22 o23 o24 o25 o26 o27 o28 n1 n6 hvals vals
      have HMAP : Hid ((pre ++ [(⟨(xi, xl), hxn⟩ : Al kt.n)]).map lof = pre.map lof ++ [xl]) := hid (by simp [lof])
      have HLU : Hid (levelF L ((xl / 2 : Nat) : Int) = ll) := hid (by rw [HU.out]; exact HLL.out)
      have K4 := hid (HD3.out.2.1.trans HD4.out.2.1)
      have Q4 := hid (keep2_t HD3.out.2.2 HD4.out.2.2)
      cases bl
      · have hlv : ll = lev := by have := HBL.out; simpa using this
        subst hlv
        obtain ⟨cs, hcs, hcs3, hpl⟩ := HD4.out.1.r.sb
        have HCS := hid hcs
        have HCS3 := hid hcs3
        have HPL := hid hpl
        have hu4 : u < 4096 := by omega
        have H2 : Hid (((2 : Nat) : Int) = 2) := hid rfl
        clear hcs hcs3 hpl
        obtain ⟨y, hy⟩ : ∃ y, s1.mrk u = y := ⟨_, rfl⟩
        have HY : Hid ((s1.mrk u : Int) = (y : Int)) := hid (by rw [hy])
        have HY0 : Hid (s1.mrk (xl / 2) = y) := hid (by rw [HU.out]; exact hy)
        clear hy
        by_cases hm : y = 1
        · subst hm
          have hmb : (((1 : Nat) : Int) != 1) = false := by simp
          obtain ⟨o, ho⟩ : ∃ o, s1.op = o := ⟨_, rfl⟩
          have HO : Hid ((passP s1 xl).op = o) := hid ho
          have HO0 := hid ho
          have hob : -900000 ≤ (passP s1 xl).op := by show -900000 ≤ s1.op; have h1 := HO1.out; rw [List.length_map] at h1; omega
          clear ho
          by_cases ho1 : o = 1
          · subst ho1
            gi_wp2_with (first
              | (refine ⟨trivial, ?_⟩; gi_at_call 90; refine (CallsIn.inRound l (callsIn_wide.2 (of_is HD4.out.1.r.pgc HD4.out.1.r.r.pg u hu4 HY.out))).mono ?_; rintro e w5 ⟨rfl, rfl⟩)
              | (refine ⟨trivial, ?_⟩; gi_at_call 91; refine (CallsIn.inRound l (callsIn_wide.2 (set_is HCS.out HCS3.out HD4.out.1.r.r.pg HPL.out u hu4 2 H2.out))).mono ?_; rintro e w6 ⟨rfl, pb6, cs6, he6⟩; have P6 := hid (pass_rn HC.out HD4.out.1.r HCS.out he6.out HU.out); have D6 := hid (HD4.out.1.step P6.out.1 P6.out.2 HC.out.hB hbl); have t6 := D6.out.1.bs.cell; have o6 := D6.out.1.r.r.c.2.2.2.2.2.1; rw [HO.out] at o6; have q1 := D6.out.1.c1.cell; have q2 := D6.out.1.c2.cell; have q1f := D6.out.1.c1.frozen; have q2f := D6.out.1.c2.frozen))
            refine ⟨((K4.out.trans D6.out.2.1).trans ((KeepsOthers.setCell _ _ _).trans (KeepsOthers.setCell _ _ _))).from _, .inl ⟨rfl, xl, passP s1 xl, _, ?_, D6.out.1.store hw0⟩⟩
            rw [HMAP.out, downs_snoc HD1.out, down_found HLU.out HY0.out HO0.out]
          · have hob1 : (o == 1) = false := by simpa using ho1
            have HON : Hid (s1.op ≠ 1) := hid (by rw [HO0.out]; exact ho1)
            clear ho1
            gi_wp2_with (first
              | (refine ⟨trivial, ?_⟩; gi_at_call 90; refine (CallsIn.inRound l (callsIn_wide.2 (of_is HD4.out.1.r.pgc HD4.out.1.r.r.pg u hu4 HY.out))).mono ?_; rintro e w5 ⟨rfl, rfl⟩)
              | (refine ⟨trivial, ?_⟩; gi_at_call 91; refine (CallsIn.inRound l (callsIn_wide.2 (set_is HCS.out HCS3.out HD4.out.1.r.r.pg HPL.out u hu4 2 H2.out))).mono ?_; rintro e w6 ⟨rfl, pb6, cs6, he6⟩; have P6 := hid (pass_rn HC.out HD4.out.1.r HCS.out he6.out HU.out); have D6 := hid (HD4.out.1.step P6.out.1 P6.out.2 HC.out.hB hbl); have t6 := D6.out.1.bs.cell; have o6 := D6.out.1.r.r.c.2.2.2.2.2.1; rw [HO.out] at o6)
              | (refine ⟨trivial, ?_⟩; gi_at_call 120; refine (CallsIn.inRound l (callsIn_wide.2 (repl_at HC.out D6.out.1.r xl hxl hl0 hob))).mono ?_; rintro e w7 ⟨b7, s7, v7, rfl, m7, r7, f7, o7⟩; have D7 := hid (D6.out.1.step r7.out f7.out HC.out.hB hbl); have q1 := D7.out.1.c1.cell; have q2 := D7.out.1.c2.cell; have q1f := D7.out.1.c1.frozen; have q2f := D7.out.1.c2.frozen; cases b7))
            · refine ⟨(((K4.out.trans D6.out.2.1).trans D7.out.2.1).trans ((KeepsOthers.setCell _ _ _).trans (KeepsOthers.setCell _ _ _))).from _, .inr ⟨.inl rfl, ?_, _, _, D7.out.1.store hw0⟩⟩
              rw [HMAP.out, downs_snoc HD1.out, down_norepl HLU.out HY0.out HON.out m7.out]
            · refine ⟨((K4.out.trans D6.out.2.1).trans D7.out.2.1).from _, keep2_t (keep2_t Q4.out D6.out.2.2) D7.out.2.2, s7, v7, ?_, ?_, D7.out.1⟩
              · rw [HMAP.out, downs_snoc HD1.out, down_repl HLU.out HY0.out HON.out m7.out]
              · have h1 := HO1.out
                have h2 : s1.op - 1 ≤ s7.op := o7.out
                rw [HMAP.out, List.length_append]
                simp only [List.length_singleton]
                omega
        · have hmb : ((y : Int) != 1) = true := by simp; omega
          have HYN : Hid (s1.mrk (xl / 2) ≠ 1) := hid (by rw [HY0.out]; exact hm)
          clear hm
          gi_wp2_with (first
            | (refine ⟨trivial, ?_⟩; gi_at_call 90; refine (CallsIn.inRound l (callsIn_wide.2 (of_is HD4.out.1.r.pgc HD4.out.1.r.r.pg u hu4 HY.out))).mono ?_; rintro e w5 ⟨rfl, rfl⟩)
            | (refine ⟨trivial, ?_⟩; gi_at_call 91; refine (CallsIn.inRound l (callsIn_wide.2 (set_is HCS.out HCS3.out HD4.out.1.r.r.pg HPL.out u hu4 2 H2.out))).mono ?_; rintro e w6 ⟨rfl, pb6, cs6, he6⟩; have P6 := hid (pass_rn HC.out HD4.out.1.r HCS.out he6.out HU.out); have D6 := hid (HD4.out.1.step P6.out.1 P6.out.2 HC.out.hB hbl)))
          refine ⟨(K4.out.trans D6.out.2.1).from _, keep2_t Q4.out D6.out.2.2, passP s1 xl, _, ?_, ?_, D6.out.1⟩
          · rw [HMAP.out, downs_snoc HD1.out, down_pass HLU.out HYN.out]
          · have h1 := HO1.out
            rw [HMAP.out, List.length_append]
            simp only [List.length_singleton]
            show s.op - _ ≤ s1.op
            omega
      · have hlv : ll ≠ lev := by have := HBL.out; simpa using this
        gi_wp2
        refine ⟨K4.out.from _, .inr ⟨.inr rfl, ?_, s1, v1, HD4.out.1⟩⟩
        rw [HMAP.out, downs_snoc HD1.out, down_lev (by rw [HLU.out]; exact hlv)]
  case done =>
    rintro D ys W hD rfl ⟨s1, v1, h1, h2, hdn⟩ hK
    have hD' : w.heap.size + 4 ≤ D := by simp at hD; omega
    have q1 := hdn.c1.cell
    have q1f := hdn.c1.frozen
    have q2 := hdn.c2.cell
    have q2f := hdn.c2.frozen
    have hK' := ((KeepsOthers.setCell W ⟨w.heap.size + 1, 0, none⟩ (.int .i64 0)).trans (KeepsOthers.setCell _ ⟨w.heap.size + 1 + 1, 0, none⟩ (.bool false))).same D _ hK rfl
    have fin := Dn.fin (hdn.store (y := 0) (cc := false) hw0) hw0 hD' hK'
    have r1 := fin.c1.cell
    have r2 := fin.c2.cell
    have HF := hid fin
    have HH1 := hid h1
    clear fin h1 hdn dn0 bS b1 b2 bT hW0 HLs c0 R3 hb3 hcz h c
    gi_wp2
    refine ⟨by simp, .inl ⟨_, _, rfl, run_takeDeferred hK', ?_⟩⟩
    refine ⟨.tuple #[.int .i64 0, .bool false], ?_, .inr ⟨by rw [HH1.out]; rfl, rfl, s1, v1, HF.out.r, HF.out.f⟩⟩
    simp [results, Tryz.f82, go_sem, r1, r2]
  case stop =>
    rintro D c' pre W hD ⟨rr, hpre⟩ hx hK
    have hD' : w.heap.size + 4 ≤ D := by simp at hD; omega
    have hno : ∀ o, downsP L lev cls s (pre.map lof) = .inr o → endP (downsP L lev cls s (zs.map lof)) = o := fun o ho => by rw [← hpre, List.map_append, downs_no _ _ _ _ ho]; rfl
    have HNO := hid hno
    clear hno dn0 bS b1 b2 bT hW0 HLs c0 R3 hb3 hcz h c
    rcases hx with ⟨rfl, x, s1, v1, h1, hdn⟩ | ⟨hc, h1, s1, v1, hdn⟩
    · have fin := Dn.fin hdn hw0 hD' hK
      have r1 := fin.c1.cell
      have r2 := fin.c2.cell
      have HF := hid fin
      have HH1 := hid h1
      clear fin h1 hdn
      gi_wp2
      refine ⟨by simp, .inl ⟨_, _, rfl, run_takeDeferred hK, ?_⟩⟩
      refine ⟨.tuple #[.int .i64 x, .bool true], ?_, .inl ⟨x, s1, v1, HNO.out _ HH1.out, rfl, HF.out.r, HF.out.f⟩⟩
      simp [results, Tryz.f82, go_sem, r1, r2]
    · rcases hc with rfl | rfl
      · have fin := Dn.fin hdn hw0 hD' hK
        have r1 := fin.c1.cell
        have r2 := fin.c2.cell
        have HF := hid fin
        have HH1 := hid h1
        clear fin h1 hdn
        gi_wp2
        refine ⟨by simp, .inl ⟨_, _, rfl, run_takeDeferred hK, ?_⟩⟩
        refine ⟨.tuple #[.int .i64 0, .bool false], ?_, .inr ⟨HNO.out _ HH1.out, rfl, s1, v1, HF.out.r, HF.out.f⟩⟩
        simp [results, Tryz.f82, go_sem, r1, r2]
      · have q1 := hdn.c1.cell
        have q1f := hdn.c1.frozen
        have q2 := hdn.c2.cell
        have q2f := hdn.c2.frozen
        have hK' := ((KeepsOthers.setCell W ⟨w.heap.size + 1, 0, none⟩ (.int .i64 0)).trans (KeepsOthers.setCell _ ⟨w.heap.size + 1 + 1, 0, none⟩ (.bool false))).same D _ hK rfl
        have fin := Dn.fin (hdn.store (y := 0) (cc := false) hw0) hw0 hD' hK'
        have r1 := fin.c1.cell
        have r2 := fin.c2.cell
        have HF := hid fin
        have HH1 := hid h1
        clear fin h1 hdn
        gi_wp2
        refine ⟨by simp, .inl ⟨_, _, rfl, run_takeDeferred hK', ?_⟩⟩
        refine ⟨.tuple #[.int .i64 0, .bool false], ?_, .inr ⟨HNO.out _ HH1.out, rfl, s1, v1, HF.out.r, HF.out.f⟩⟩
        simp [results, Tryz.f82, go_sem, r1, r2]

/-- The literals of a trail, the last one first. -/
theorem back_lits (n : Nat) (L : List E) (h : ∀ e ∈ L, vr e < n) : ∃ zs : List (Al n), zs.length = L.length ∧ zs.map lof = L.reverse.map E.l ∧ ∀ (q : Nat) (x : Al n), zs[q]? = some x → x.1.1 + q + 1 = L.length ∧ ∃ e, L[x.1.1]? = some e ∧ e.l = x.1.2 := by
  obtain ⟨zs, h1, h2, h3⟩ := back_list n L h
  refine ⟨zs, h1, ?_, h3⟩
  apply List.ext_getElem
  · simp [h1]
  · intro i i1 i2
    simp only [List.length_map] at i1
    obtain ⟨q1, e, q2, q3⟩ := h3 i zs[i] (List.getElem?_eq_getElem i1)
    simp only [List.getElem_map, List.getElem_reverse]
    rw [show lof zs[i] = e.l from q3.symm]
    have h4 : zs[i].1.1 = L.length - 1 - i := by omega
    rw [h4] at q2
    have := List.getElem?_eq_some_iff.1 q2
    obtain ⟨hlt, he⟩ := this
    rw [← he]

theorem goDown_is (c : Cm k w0 kt L lev p cls) (h : Rn k w0 kt.n w s v) (hl0 : lev ≠ 0) (hop : -800000 ≤ s.op) :
    Calls Tryz.prog 82 #[.pointer (some ⟨k.SB, 0, none⟩)] w fun e w' => DownE k w0 kt.n w v (endP (downsP L lev cls s (L.reverse.map E.l))) e w' := by
  have hln := c.t.len
  obtain ⟨zs, hz, hm, hc⟩ := back_lits kt.n L c.t.lits_lt
  obtain ⟨F, S, r, g, _⟩ := id c.t
  have hlL := litsF_len L
  have hL : 0 < L.length := by omega
  obtain ⟨b, cap, hp, _⟩ := r.rl.filled (by omega)
  have hb : litB p = some ⟨b, 0, none⟩ := by unfold litB; rw [hp]
  have hbl : b < w0.heap.size := (r.rl.lt (j := b) (by rw [hp]; rfl)).2
  rw [← hm]
  refine callsIn_wide.1 (goDown_in c h hl0 hop hL b hb hbl zs hz ?_)
  intro q x hx
  obtain ⟨q1, e, q2, q3⟩ := hc q x hx
  refine ⟨q1, ?_⟩
  have hr := r.rl
  rw [hp] at hr
  have hcell : w0.cell? ⟨b, x.1.1, none⟩ = some (.int .i64 (x.1.2 : Int)) := hr.at (by simp [litsF, q2, q3])
  rw [Nat.zero_add]
  exact (h.b.cell (p := ⟨b, x.1.1, none⟩) hbl).trans hcell
end

end Go.Proofs.YtimfjoinjfecjaaGreat
