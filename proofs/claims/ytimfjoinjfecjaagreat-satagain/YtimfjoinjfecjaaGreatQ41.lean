/-
  goBack: what was assigned above a level is taken back, and waits.
  learn: what a conflict teaches is kept.
-/
import Derived.Test.YtimfjoinjfecjaaGreatQ36
import Derived.Test.YtimfjoinjfecjaaGreatQ35
import Derived.Test.YtimfjoinjfecjaaGreatQ27
import Derived.Test.YtimfjoinjfecjaaGreatQ29
import Derived.Test.YtimfjoinjfecjaaGreatQ40

namespace Go.Proofs.YtimfjoinjfecjaaGreat
open Go.RowKit Go.Maps
set_option linter.unusedVariables false

def pushvF (n : Nat) (W : List Bool) (vs : List Int) : List Bool := vs.foldl (Od.pushW n) W
theorem pushv_next {n : Nat} {W : List Bool} {xs : List Int} {q : Nat} {y : Int} (h : xs[q]? = some y) : pushvF n W (xs.take (q + 1)) = Od.pushW n (pushvF n W (xs.take q)) y := by
  rw [List.take_add_one, h]
  simp [pushvF, List.foldl_append]

def bkF (s : SS) (x : Int) : SS := upW s (backL s.L s.lev x) (backV s.lev x) s.H
def gbF (n : Nat) (s : SS) (x : Int) : SS := upO (bkF (ktF s x) x) s.A (pushvF n s.W (backG s.L s.lev x))

section
variable {c : SC} {w0 w w' : World} {g g' : G} {s s' : SS} {m m' : MV}

theorem Rs.back {L : List E} (h : Rs g L) (lev : Nat) (x : Int) : Rs g (backL L lev x) := by
  unfold backL
  split
  · exact h.take _
  · exact h

theorem sback (h : Sm c w0 g s m w) (x : Int) : Calls Tryz.prog 92 #[.pointer (some ⟨c.k.OB, 0, none⟩), .int .i64 x] w fun e w' => ∃ ao n cp m', e = .returned (.slice ao n cp) ∧ Hid (Sm c w0 g (bkF s x) m' w') ∧ Hid (Kp w0 w m.ow w' m'.ow) ∧ Hid (OwnL w' w.heap.size (.slice ao n cp) (backG s.L s.lev x)) ∧ Hid (∀ j, (Value.slice ao n cp).ownBlock = some j → m'.ow j = 1) := by
  refine (back_is h.W.j.t x).mono fun e w' q => ?_
  obtain ⟨ao, n, cp, p', rfl, bt, hn⟩ := q
  have W' := h.W.fr bt.out.fr bt.out.trl (h.W.rs.back s.lev x)
  have z := h.wa W' (FT.fr h.W.j.t h.W.j.b bt.out.fr) (fun i hi hg j e h0 hj => h.t.ft j (.inr (.inr (.inl ⟨i, hi, hg, e, h0⟩)))) (fun h0 j e hj => h.t.ft j (.inr (.inr (.inr ⟨h0, e⟩))))
  refine ⟨ao, n, cp, _, rfl, hid z.1, hid z.2, hid bt.out.row, hid (fun j e => ?_)⟩
  show owT m.ow 1 w.heap.size (fun _ => true) j = 1
  exact owT_one (.inr (bt.out.row.lt e).1)

theorem spush2 (h : Sm c w0 g s m w) (v : Int) : Calls Tryz.prog 29 #[.pointer (some ⟨c.ko.OB, 0, none⟩), .int .i64 v] w fun e w' => ∃ b m', e = .returned (.bool b) ∧ Hid (Sm c w0 g (upO s s.A (Od.pushW c.kw.n s.W v)) m' w') ∧ Hid (Kp w0 w m.ow w' m'.ow) ∧ Hid (∀ j, j < w.heap.size → m.ow j = 1 → w'.heap[j]? = w.heap[j]?) := by
  refine (Od.push_any h.o v).mono fun e w' q => ?_
  obtain ⟨rfl, v', q1, q2⟩ := q
  rw [h.hn] at q1
  obtain ⟨m', h1, k1⟩ := h.xord q1 q2
  exact ⟨_, m', rfl, h1, k1, fun j hj e => q2.block j hj (fun mm => by have := h.t.od j mm; omega)⟩

set_option maxHeartbeats 2000000 in
theorem goBack_is (h : Sm c w0 g s m w) (x : Int) : Calls Tryz.prog 57 #[.pointer (some ⟨c.SB, 0, none⟩), .int .i64 x] w fun e w' => e = .returned (.tuple #[]) ∧ Nx c w0 w m g (gbF c.kw.n s x) w' := by
  have HK := hid (keep_s h x)
  have hlen : (backG s.L s.lev x).length ≤ 1048576 := by
    have := h.W.j.t.len
    unfold backG
    split
    · simp; omega
    · simp
  have HB : ∀ {w1 : World} {m1 : MV}, Sm c w0 g (ktF s x) m1 w1 → backG (ktF s x).L (ktF s x).lev x = backG s.L s.lev x := fun _ => rfl
  clear h
  go_enter Tryz.func57, Tryz.ntmps57
  go_wp2_with (first
    | (go_at_call 63; with_reducible (refine HK.out.mono ?_); rintro e w1 ⟨rfl, n1⟩; have n2 := Nx.out n1; obtain ⟨m1, h1, k1⟩ := n2; have c0 := h1.out.c0)
    | (go_at_call 92; with_reducible (refine (sback h1.out x).mono ?_); rintro e w2 ⟨ao, n, cp, m2, rfl, h2, k2, o2, t2⟩))
  have hn := hid (own_row o2.out).1
  have K2 := hid (k1.out.trans k2.out)
  have HG : Hid (backG (ktF s x).L (ktF s x).lev x = backG s.L s.lev x) := hid rfl
  rw [HG.out] at o2 hn
  have hnl : n ≤ 1048576 := by rw [hn.out]; exact hlen
  clear h1 k1 k2 c0 HK hlen
  go_loopw [16] (fun i wr => ∃ (q : Nat) (m3 : MV), q ≤ n ∧ i = .int .i64 q ∧ Hid (Sm c w0 g (upO (bkF (ktF s x) x) s.A (pushvF c.kw.n s.W ((backG s.L s.lev x).take q))) m3 wr) ∧ Hid (Kp w0 w m.ow wr m3.ow) ∧ Hid (OwnL wr w1.heap.size (.slice ao n cp) (backG s.L s.lev x)) ∧ Hid (∀ j, (Value.slice ao n cp).ownBlock = some j → m3.ow j = 1)) (fun i _ => n - (intOf i).toNat)
  case atStart => exact ⟨0, m2, Nat.zero_le _, rfl, h2, K2, o2, t2⟩
  case round =>
    clear h2 K2 o2 t2
    obtain ⟨q, m3, hq, rfl, h3, k3, o3, t3⟩ := hrel
    by_cases hlt : q < n
    · have hlt' : (q : Int) < n := by omega
      obtain ⟨b, y, rfl, hy, hc⟩ := (own_row o3.out).2 q hlt
      have c2 := h3.out.c2
      have HU : Hid (pushvF c.kw.n s.W ((backG s.L s.lev x).take (q + 1)) = Od.pushW c.kw.n (pushvF c.kw.n s.W ((backG s.L s.lev x).take q)) y) := hid (pushv_next hy)
      clear hy
      go_wp2_with (first
        | (go_at_call 29; with_reducible (refine (spush2 h3.out y).mono ?_); rintro e w5 ⟨bb, m5, rfl, h5, k5, f5⟩))
      go_roundw
      case rel =>
        refine ⟨q + 1, m5, by omega, by go_num, hid (by rw [HU.out]; exact h5.out), hid (k3.out.trans k5.out), hid (OwnL.same o3.out (fun j e => f5.out j (o3.out.lt e).2 (t3.out j e))), hid (fun j e => k5.out.on j (o3.out.lt e).2 (t3.out j e))⟩
      case measure => simp only [intOf]; omega
    · have HT : Hid ((backG s.L s.lev x).take q = backG s.L s.lev x) := hid (List.take_of_length_le (by rw [← hn.out]; omega))
      have HE : Hid (Nx c w0 w m g (gbF c.kw.n s x) wr) := hid ⟨m3, by have := h3.out; rw [HT.out] at this; exact this, k3.out⟩
      clear h3 k3 o3 t3 HT
      go_wp2
      go_end0
      exact ⟨rfl, HE.out⟩
end
end Go.Proofs.YtimfjoinjfecjaaGreat

namespace Go.Proofs.YtimfjoinjfecjaaGreat
open Go.RowKit Go.Maps
set_option linter.unusedVariables false

def lrn1 (s : SS) (met : List Int) : SS := weighF (s.ct (s.cf + 1)) met
def lrn2 (c : SC) (s : SS) (x : Int) (met : List Int) : SS := (lrn1 s met).F (usesF c.fst ((s.cf + 1 : Nat) : Int) (lrn1 s met).fs (rsnF s.L s.lev x met))
def lrn3 (c : SC) (s : SS) (x : Int) (met xs : List Int) : SS := saddF c (lrn2 c s x met) ⟨(xs.length : Nat), ((glueF s.L xs).2 : Nat), ((s.cf + 1 : Nat) : Int)⟩
def lrn4 (c : SC) (s : SS) (x : Int) (met xs : List Int) (bk : Int) : SS := gbF c.kw.n (lrn3 c s x met xs) bk
def lrn5 (c : SC) (s : SS) (x : Int) (met xs : List Int) (bk : Int) : SS := (lrn4 c s x met xs bk).C ((lrn4 c s x met xs bk).cls ++ [xs])
def lrnF (c : SC) (s : SS) (x : Int) (met xs : List Int) (bk : Int) : SS := (lrn5 c s x met xs bk).Pf ((lrn5 c s x met xs bk).prf ++ [xs])

theorem weigh_flds (s : SS) (met : List Int) : (weighF s met).L = s.L ∧ (weighF s met).lev = s.lev ∧ (weighF s met).fs = s.fs ∧ (weighF s met).ns = s.ns ∧ (weighF s met).cf = s.cf ∧ (weighF s met).cls = s.cls ∧ (weighF s met).prf = s.prf ∧ (weighF s met).H = s.H ∧ (weighF s met).rd = s.rd ∧ (weighF s met).en = s.en ∧ (weighF s met).lim = s.lim ∧ (weighF s met).tr = s.tr ∧ (weighF s met).W = s.W := by
  unfold weighF
  split <;> exact ⟨rfl, rfl, rfl, rfl, rfl, rfl, rfl, rfl, rfl, rfl, rfl, rfl, rfl⟩

section
variable {c : SC} {w0 w w' : World} {g g' : G} {s s' : SS} {m m' : MV}

theorem lrn1_flds (s : SS) (met : List Int) : (lrn1 s met).L = s.L ∧ (lrn1 s met).lev = s.lev ∧ (lrn1 s met).fs = s.fs ∧ (lrn1 s met).ns = s.ns ∧ (lrn1 s met).cf = s.cf + 1 ∧ (lrn1 s met).cls = s.cls ∧ (lrn1 s met).prf = s.prf := by
  obtain ⟨a, b, c, d, e, f, g, _⟩ := weigh_flds (s.ct (s.cf + 1)) met
  exact ⟨a, b, c, d, e, f, g⟩

theorem Sm.grid (h : Sm c w0 g s m w) : ∃ a cp, m.cv = .slice a s.cls.length cp ∧ U.Grid w a s.cls.length cp s.cls := by
  obtain ⟨vs, q1, q2, q3⟩ := h.cl
  rcases q1.2 with ⟨e, e2⟩ | ⟨b, cap, cur, e, hB, hg, h1, h2, h3, h4⟩
  · exact ⟨none, 0, by rw [e, e2], rfl, by omega, by unfold maxLen; omega, fun _ => rfl, fun h0 => by omega⟩
  · refine ⟨_, cap, e, rfl, h1, h2, (fun q => by cases q), fun h0 => ⟨b, 0, rfl, fun j hj => ?_⟩⟩
    obtain ⟨a, n, cc, e1, e2, _⟩ := q3.1.2 j (by rw [q3.1.1]; exact hj)
    refine ⟨a, n, cc, ?_, e2⟩
    rw [Nat.zero_add, cell_of hg, ← e1, ← h4]
    rw [List.getElem?_take_of_lt (by omega)]
    simp

def qL (gb : Nat) (va : Option Addr) (j : Nat) : Bool := decide (j = gb) || (match va with
  | some a => decide (a = ⟨j, a.off, none⟩)
  | none => false)
theorem qL_a (gb : Nat) (va : Option Addr) : qL gb va gb = true := by simp [qL]
theorem qL_b (gb : Nat) (b off : Nat) : qL gb (some ⟨b, off, none⟩) b = true := by simp [qL]
theorem qL_of {gb : Nat} {va : Option Addr} {j : Nat} (h : qL gb va j = true) : j = gb ∨ ∃ off, va = some ⟨j, off, none⟩ := by
  unfold qL at h
  rw [Bool.or_eq_true, decide_eq_true_eq] at h
  rcases h with h | h
  · exact .inl h
  · cases va with
    | none => simp at h
    | some a => exact .inr ⟨a.off, by rw [← of_decide_eq_true h]⟩

theorem Sm.taught {n x : Nat} {s1 : PS} {gb cc ml : Nat} {bk : Int} {va : Option Addr} {vn vc : Nat} {es : List Int} (h : Sm c w0 g s m w) (y : LearnYes s.L n w x s1 gb cc ml bk va vn vc es w') :
    ∃ m', Hid (Sm c w0 g s m' w') ∧ Hid (Kp w0 w m.ow w' m'.ow) ∧ Hid (GVt w0 w' m'.ow [.slice (some ⟨gb, 0, none⟩) ml cc] [U.notF x :: es]) ∧ Hid (GVt w0 w' m'.ow [.slice va vn vc] [riseI (natI s1.met)]) := by
  have z := h.fresh y.be (qL gb va) (fun j hj hlo hhi => ⟨3, by
    rcases qL_of hj with rfl | ⟨off, e⟩
    · exact y.tg
    · exact (y.tm j off e).1, by simp [Wt]⟩)
  refine ⟨_, hid z.1, hid z.2, hid ⟨rfl, fun j hj => ?_⟩, hid ⟨rfl, fun j hj => ?_⟩⟩
  · obtain rfl : j = 0 := by simp at hj; omega
    exact ⟨_, _, _, rfl, y.row, fun _ => ⟨gb, 0, rfl, .inr ⟨y.tg.lt, owZ_new y.hg (qL_a _ _)⟩⟩⟩
  · obtain rfl : j = 0 := by simp at hj; omega
    refine ⟨_, _, _, rfl, y.met, fun h0 => ?_⟩
    obtain ⟨b, off, v, e, _⟩ := y.met.at h0
    obtain ⟨t1, t2⟩ := y.tm b off e
    exact ⟨b, off, e, .inr ⟨t1.lt, owZ_new t2 (by rw [e]; exact qL_b _ _ _)⟩⟩
end
end Go.Proofs.YtimfjoinjfecjaaGreat
