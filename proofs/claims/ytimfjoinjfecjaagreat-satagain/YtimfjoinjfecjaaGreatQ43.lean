/-
  begin: the walk.
-/
import Derived.Test.YtimfjoinjfecjaaGreatQ33

namespace Go.Proofs.YtimfjoinjfecjaaGreat
open Go.RowKit Go.Maps
set_option linter.unusedVariables false

/-- The variables of literals wait. -/
def pushsF (n : Nat) (W : List Bool) (xs : List Int) : List Bool := xs.foldl (fun W x => Od.pushW n W (U.varF x)) W
theorem pushs_next {n : Nat} {W : List Bool} {xs : List Int} {q : Nat} {y : Int} (h : xs[q]? = some y) : pushsF n W (xs.take (q + 1)) = Od.pushW n (pushsF n W (xs.take q)) (U.varF y) := by
  rw [List.take_add_one, h]
  simp [pushsF, List.foldl_append]

def beg1 (n : Nat) (s : SS) (xs : List Int) : SS := upO (s.C (s.cls ++ [xs])) s.A (pushsF n s.W xs)
def begF (n : Nat) (l : List (List Int)) : SS := l.foldl (beg1 n) (s0F n)
theorem beg_next {n : Nat} {l : List (List Int)} {q : Nat} {y : List Int} (h : l[q]? = some y) : begF n (l.take (q + 1)) = beg1 n (begF n (l.take q)) y := by
  unfold begF
  rw [List.take_add_one, h]
  simp [List.foldl_append]

section
variable {c : SC} {w0 w w' : World} {g g' : G} {s s' : SS} {m m' : MV}

/-- A clause more in the watch. -/
def addWP (n : Nat) (p : WP) (xs : List Int) : WP := ⟨p.nx + 1, up p.lt p.nx xs, up p.a p.nx (-1), up p.b p.nx (-1), up p.fr p.nx 0, up p.gn p.nx false, up p.P (3 * n) (p.P (3 * n) ++ [p.nx]), p.pl, p.dn⟩
theorem AddD.pt {n sz : Nat} {xs : List Int} (d : AddD n sz g g' xs) : g'.pt = addWP n g.pt xs := by
  unfold G.pt addWP
  rw [d.nx, d.lt, d.gn, d.a, d.b, d.fr, d.P, d.pl, d.dn]
def begW (n : Nat) (l : List (List Int)) : WP := l.foldl (addWP n) g0.pt
theorem begW_next {n : Nat} {l : List (List Int)} {q : Nat} {y : List Int} (h : l[q]? = some y) : begW n (l.take (q + 1)) = addWP n (begW n (l.take q)) y := by
  unfold begW
  rw [List.take_add_one, h]
  simp [List.foldl_append]
theorem bl_low {a : Addr} {v : Value} (b : Below w0.heap.size w0 w) (h : w0.cell? a = some v) : w.cell? a = some v := (b.cell (cell_lt h)).trans h
theorem gv_old {a : Option Addr} {n cap : Nat} {xs : List Int} {ow : Nat → Nat} (b : Below w0.heap.size w0 w) (h : U.Row w0 a n cap xs) : GVt w0 w ow [.slice a n cap] [xs] := by
  refine ⟨rfl, fun j hj => ?_⟩
  obtain rfl : j = 0 := by simp at hj; omega
  refine ⟨a, n, cap, rfl, h.keep b, fun h0 => ?_⟩
  obtain ⟨b', off, y, rfl, hc, _⟩ := h.at h0
  exact ⟨b', off, rfl, .inl (cell_lt hc)⟩
theorem tot_g0 (n : Nat) : tot n g0 = 0 := tot_zero n
structure Gb (n : Nat) (l : List (List Int)) (g : G) : Prop where
  pt : g.pt = begW n l
  su : tot n g = l.length
  rm : g.rm = g0.rm
  nx : g.nx = l.length
  pl : (g.P (3 * n)).length = l.length
theorem Gb.next {n sz : Nat} {l : List (List Int)} {q : Nat} {y : List Int} (h : Gb n (l.take q) g) (hy : l[q]? = some y) (d : AddD n sz g g' y) : Gb n (l.take (q + 1)) g' := by
  have hq := (List.getElem?_eq_some_iff.1 hy).1
  have e1 : (l.take (q + 1)).length = (l.take q).length + 1 := by simp; omega
  refine ⟨by rw [d.pt, h.pt, begW_next hy], by rw [d.su, h.su, e1], by rw [d.rm, h.rm], by rw [d.nx, h.nx, e1], ?_⟩
  rw [d.P, up_same, List.length_append, h.pl, e1]; rfl
theorem beg_cls (n : Nat) (l : List (List Int)) : (begF n l).cls = l := by
  have : ∀ (l : List (List Int)) (s : SS), (l.foldl (beg1 n) s).cls = s.cls ++ l := by
    intro l
    induction l with
    | nil => intro s; simp
    | cons x l ih => intro s; rw [List.foldl_cons, ih]; simp [beg1, upO, SS.C]
  show (l.foldl (beg1 n) (s0F n)).cls = l
  rw [this]; rfl
theorem beg_rd (n : Nat) (l : List (List Int)) : (begF n l).rd = 0 ∧ (begF n l).cf = 0 := by
  have : ∀ (l : List (List Int)) (s : SS), (l.foldl (beg1 n) s).rd = s.rd ∧ (l.foldl (beg1 n) s).cf = s.cf := by
    intro l
    induction l with
    | nil => intro s; simp
    | cons x l ih => intro s; rw [List.foldl_cons]; exact ih (beg1 n s x)
  exact this l (s0F n)

def BegEnd (w : World) (n : Nat) (all : Bool) (l : List (List Int)) (SB : Nat) (w' : World) : Prop := ∃ c g m, c.SB = SB ∧ c.fst = l.length ∧ c.all = all ∧ c.kw.n = n ∧ Hid (Sm c w g (nextF (begF n l)) m w') ∧ Hid (Gb n l g)

def BegSm (w : World) (n fst : Nat) (all : Bool) (SB : Nat) (w' : World) : Prop := ∃ c m, c.SB = SB ∧ c.fst = fst ∧ c.all = all ∧ c.kw.n = n ∧ Sm c w g0 (s0F n) m w'

theorem wnew_below {n : Int} {w w' : World} {OB : Nat} (h : WNewEnd n w OB w') : Hid (Below w.heap.size w w') := by
  obtain ⟨k, _, _, _, _, b⟩ := h 0 (Nat.zero_le _)
  exact b
theorem onew_below {n : Int} {w w' : World} {OB : Nat} (h : Od.NewEnd n w OB w') : Hid (Below w.heap.size w w') := by
  obtain ⟨k, _, _, _, _, b⟩ := h
  exact b

theorem hit_alloc {W : World} {o : Obj} {b : Nat} (h : b = W.heap.size) : (W.alloc o).heap[b]? = some o := by
  subst h; exact new_same W o
theorem skip_alloc {W : World} {o o' : Obj} {b : Nat} (h : b < W.heap.size) (e : W.heap[b]? = some o) : (W.alloc o').heap[b]? = some o := by
  rw [(alloc_below W o').block _ h]; exact e
theorem skip_below {W W' : World} {o : Obj} {b : Nat} (B : Below W.heap.size W W') (h : b < W.heap.size) (e : W.heap[b]? = some o) : W'.heap[b]? = some o := by
  rw [B.block _ h]; exact e
theorem size_drew (w : World) : w.drew.heap.size = w.heap.size := rfl

theorem beg_of {w w1 w2a w2 w3a w3 wa Wf : World} {n len SB tb cb ob2 ob3 : Nat} {all : Bool} {k1 : K} {cs : Array Value} (hcn : cntF n = n) (hcn2 : Od.cntF n = n) (hlen : len ≤ 1000) (hcs : cs.size = len) (t1 : Trl k1 w1 [] 0 noV) (n1 : k1.n = cntF n) (hB1 : k1.B = wa.heap.size) (ba : Below w.heap.size w wa) (b1 : Below w1.heap.size w1 Wf)
    (e2 : WNewEnd n w2a ob2 w2) (ba2 : Below w.heap.size w w2a) (b2 : Below w2.heap.size w2 Wf) (e3 : Od.NewEnd n w3a ob3 w3) (ba3 : Below w.heap.size w w3a) (b3 : Below w3.heap.size w3 Wf) (b0 : Below w.heap.size w Wf)
    (htb0 : Wf.heap[tb]? = some (.cells (Array.replicate n (.bool false)) 4 (0, 0))) (htbl : w.heap.size ≤ tb) (hcb : Wf.heap[cb]? = some (.cells cs 42 (0, 0))) (hcbl : w.heap.size ≤ cb) (hsbl : w.heap.size ≤ SB)
    (hsb : Wf.heap[SB]? = some (.cells #[.pointer (some ⟨k1.OB, 0, none⟩), .pointer (some ⟨ob2, 0, none⟩), .pointer (some ⟨ob3, 0, none⟩), .slice (some ⟨cb, 0, none⟩) 0 len, .int .i64 len, .slice none 0 0, .slice none 0 0, .bool all, .int .i64 1000, .slice none 0 0, .slice (some ⟨tb, 0, none⟩) n n, .int .i64 131072, .int .i64 0, .int .i64 0, .int .i64 0] 61 (0, 0))) : BegSm w n len all SB Wf := by
  have htb : Wf.heap[tb]? = some (.cells ((List.replicate n false).map Value.bool).toArray 4 (0, 0)) := by rw [htb0]; simp
  obtain ⟨kw, q1, q2, q3, q4, q5⟩ := e2 w.heap.size ba2.size
  obtain ⟨ko, r1, r2, r3, r4, r5⟩ := e3
  rw [hcn] at n1 q3
  rw [hcn2] at r3
  subst q1 r1
  obtain ⟨m, h⟩ := Sm.begin (c := ⟨k1, kw, ko, SB, len, all⟩) (w := w) (n := n) (tb := tb) (cb := cb) (fst := len) (all := all) (ca := cs) b0 (t1.below b1) (q4.below b2) (by have := r4.below b3; rw [r3] at this; exact this) n1 q3 r3 (by show w.heap.size ≤ k1.B; rw [hB1]; exact ba.size) q2 (by show w.heap.size ≤ ko.B; rw [r2]; exact ba3.size) htb hcb hcs (by show len ≤ 1048576; omega) hcbl htbl hsbl hsb
  exact ⟨_, m, rfl, rfl, rfl, q3, h⟩

set_option maxRecDepth 20000 in
set_option maxHeartbeats 8000000 in
theorem begin_is (n : Nat) (hn : n ≤ 1048576) (ao : Option Addr) (len cap : Nat) (l : List (List Int)) (w : World) (hl : U.Grid w ao len cap l) (hlen : len ≤ 1000) (hx : ∀ xs ∈ l, xs.length ≤ 1000 ∧ ∀ x ∈ xs, 0 ≤ x ∧ x < 2 * (n : Int)) :
    Calls Tryz.prog 17 #[.int .i64 n, .slice ao len cap] w fun e w' => ∃ SB, e = .returned (.pointer (some ⟨SB, 0, none⟩)) ∧ BegEnd w n (decide ((n : Int) ≤ 8)) l SB w' := by
  have HL := hid hl
  have HX := hid hx
  clear hl hx
  obtain ⟨all, hall⟩ : ∃ all, decide ((n : Int) ≤ 8) = all := ⟨_, rfl⟩
  have mkB := makeB n hn
  obtain ⟨cs, hcs, mkC⟩ : ∃ cs : Array Value, cs.size = len ∧ ∀ W : World, (Instr.makeSlice 22 (.int .i64 0) (.int .i64 len)).run Tryz.prog W = .ok (.slice (some ⟨W.heap.size, 0, none⟩) 0 len) (W.alloc (.cells cs 42)) := by
    obtain ⟨cs, h1, h2⟩ := makeC len (by omega) w
    obtain ⟨i0, hi, hz0, hz1, hz2⟩ := info_parts Tryz.infoG
    refine ⟨_, ?_, fun W => run_make (P := Tryz.prog) W 22 42 i0 (.slice none 0 0) Tryz.underlying22 hi hz0 .i64 .i64 0 len (by omega) (by omega) (by rw [hz2]; omega) (by omega)⟩
    rw [hz1]; simp [size_madeCells]
  have HCN : Hid (cntF n = n) := hid (by simp only [cntF]; rw [if_neg (by omega)]; omega)
  have HCN2 : Hid (Od.cntF n = n) := hid (by simp only [Od.cntF]; rw [if_neg (by omega)]; omega)
  have BW := hid (Below.refl w.heap.size w)
  go_enter Tryz.func17, Tryz.ntmps17
  go_upto_region 1 with fail
  go_cut [5] from 10 (fun s5 wz => ∃ SB, s5 = .pointer (some ⟨SB, 0, none⟩) ∧ Hid (BegSm w n len all SB wz))
  case first =>
    go_region_with (first
      | (go_at_call 25; with_reducible (refine (new_is n _).mono ?_); rintro e w1 ⟨k1, rfl, t1, n1, hB1, b1⟩)
      | (go_at_call 26; with_reducible (refine (wnew_any n _).mono ?_); rintro e w2 ⟨ob2, rfl, e2⟩; have b2 := wnew_below e2)
      | (go_at_call 27; with_reducible (refine (Od.new_any n _).mono ?_); rintro e w3 ⟨ob3, rfl, e3⟩; have b3 := onew_below e3))
    all_goals go_wp2
    all_goals go_meet
    all_goals
      refine ⟨_, rfl, hid ?_⟩
      apply beg_of (Hid.out HCN) (Hid.out HCN2) hlen hcs (Hid.out t1) (Hid.out n1) (Hid.out hB1) (e2 := e2) (e3 := e3)
      case hsb => exact hit_alloc (by (have q1 := (Hid.out b1).size; have q2 := (Hid.out b2).size; have q3 := (Hid.out b3).size; (try simp only [World.size_alloc, size_drew] at q1); (try simp only [World.size_alloc] at q2); (try simp only [World.size_alloc] at q3); (try simp only [World.size_alloc]); (try omega)))
      case ba => (repeat (first | exact Below.refl _ _ | refine Below.next ?_ (Hid.out b1) | refine Below.next ?_ (Hid.out b2) | refine Below.next ?_ (Hid.out b3) | refine Below.next ?_ (below_drew _) | refine Below.next ?_ (alloc_below _ _)))
      case b1 => (repeat (first | exact Below.refl _ _ | refine Below.next ?_ (Hid.out b1) | refine Below.next ?_ (Hid.out b2) | refine Below.next ?_ (Hid.out b3) | refine Below.next ?_ (below_drew _) | refine Below.next ?_ (alloc_below _ _)))
      case ba2 => (repeat (first | exact Below.refl _ _ | refine Below.next ?_ (Hid.out b1) | refine Below.next ?_ (Hid.out b2) | refine Below.next ?_ (Hid.out b3) | refine Below.next ?_ (below_drew _) | refine Below.next ?_ (alloc_below _ _)))
      case b2 => (repeat (first | exact Below.refl _ _ | refine Below.next ?_ (Hid.out b1) | refine Below.next ?_ (Hid.out b2) | refine Below.next ?_ (Hid.out b3) | refine Below.next ?_ (below_drew _) | refine Below.next ?_ (alloc_below _ _)))
      case ba3 => (repeat (first | exact Below.refl _ _ | refine Below.next ?_ (Hid.out b1) | refine Below.next ?_ (Hid.out b2) | refine Below.next ?_ (Hid.out b3) | refine Below.next ?_ (below_drew _) | refine Below.next ?_ (alloc_below _ _)))
      case b3 => (repeat (first | exact Below.refl _ _ | refine Below.next ?_ (Hid.out b1) | refine Below.next ?_ (Hid.out b2) | refine Below.next ?_ (Hid.out b3) | refine Below.next ?_ (below_drew _) | refine Below.next ?_ (alloc_below _ _)))
      case b0 => (repeat (first | exact Below.refl _ _ | refine Below.next ?_ (Hid.out b1) | refine Below.next ?_ (Hid.out b2) | refine Below.next ?_ (Hid.out b3) | refine Below.next ?_ (below_drew _) | refine Below.next ?_ (alloc_below _ _)))
      case htb0 => (repeat (first | exact hit_alloc (by (have q1 := (Hid.out b1).size; have q2 := (Hid.out b2).size; have q3 := (Hid.out b3).size; (try simp only [World.size_alloc, size_drew] at q1); (try simp only [World.size_alloc] at q2); (try simp only [World.size_alloc] at q3); (try simp only [World.size_alloc]); (try omega))) | refine skip_alloc (by (have q1 := (Hid.out b1).size; have q2 := (Hid.out b2).size; have q3 := (Hid.out b3).size; (try simp only [World.size_alloc, size_drew] at q1); (try simp only [World.size_alloc] at q2); (try simp only [World.size_alloc] at q3); (try simp only [World.size_alloc]); (try omega))) ?_ | refine skip_below (Hid.out b1) (by (have q1 := (Hid.out b1).size; have q2 := (Hid.out b2).size; have q3 := (Hid.out b3).size; (try simp only [World.size_alloc, size_drew] at q1); (try simp only [World.size_alloc] at q2); (try simp only [World.size_alloc] at q3); (try simp only [World.size_alloc, size_drew]); (try omega))) ?_ | refine skip_below (Hid.out b2) (by (have q1 := (Hid.out b1).size; have q2 := (Hid.out b2).size; have q3 := (Hid.out b3).size; (try simp only [World.size_alloc, size_drew] at q1); (try simp only [World.size_alloc] at q2); (try simp only [World.size_alloc] at q3); (try simp only [World.size_alloc]); (try omega))) ?_ | refine skip_below (Hid.out b3) (by (have q1 := (Hid.out b1).size; have q2 := (Hid.out b2).size; have q3 := (Hid.out b3).size; (try simp only [World.size_alloc, size_drew] at q1); (try simp only [World.size_alloc] at q2); (try simp only [World.size_alloc] at q3); (try simp only [World.size_alloc]); (try omega))) ?_))
      case hcb => (repeat (first | exact hit_alloc (by (have q1 := (Hid.out b1).size; have q2 := (Hid.out b2).size; have q3 := (Hid.out b3).size; (try simp only [World.size_alloc, size_drew] at q1); (try simp only [World.size_alloc] at q2); (try simp only [World.size_alloc] at q3); (try simp only [World.size_alloc]); (try omega))) | refine skip_alloc (by (have q1 := (Hid.out b1).size; have q2 := (Hid.out b2).size; have q3 := (Hid.out b3).size; (try simp only [World.size_alloc, size_drew] at q1); (try simp only [World.size_alloc] at q2); (try simp only [World.size_alloc] at q3); (try simp only [World.size_alloc]); (try omega))) ?_ | refine skip_below (Hid.out b1) (by (have q1 := (Hid.out b1).size; have q2 := (Hid.out b2).size; have q3 := (Hid.out b3).size; (try simp only [World.size_alloc, size_drew] at q1); (try simp only [World.size_alloc] at q2); (try simp only [World.size_alloc] at q3); (try simp only [World.size_alloc, size_drew]); (try omega))) ?_ | refine skip_below (Hid.out b2) (by (have q1 := (Hid.out b1).size; have q2 := (Hid.out b2).size; have q3 := (Hid.out b3).size; (try simp only [World.size_alloc, size_drew] at q1); (try simp only [World.size_alloc] at q2); (try simp only [World.size_alloc] at q3); (try simp only [World.size_alloc]); (try omega))) ?_ | refine skip_below (Hid.out b3) (by (have q1 := (Hid.out b1).size; have q2 := (Hid.out b2).size; have q3 := (Hid.out b3).size; (try simp only [World.size_alloc, size_drew] at q1); (try simp only [World.size_alloc] at q2); (try simp only [World.size_alloc] at q3); (try simp only [World.size_alloc]); (try omega))) ?_))
      case htbl => (have q1 := (Hid.out b1).size; have q2 := (Hid.out b2).size; have q3 := (Hid.out b3).size; (try simp only [World.size_alloc, size_drew] at q1); (try simp only [World.size_alloc] at q2); (try simp only [World.size_alloc] at q3); (try simp only [World.size_alloc, size_drew]); (try omega))
      case hcbl => (have q1 := (Hid.out b1).size; have q2 := (Hid.out b2).size; have q3 := (Hid.out b3).size; (try simp only [World.size_alloc, size_drew] at q1); (try simp only [World.size_alloc] at q2); (try simp only [World.size_alloc] at q3); (try simp only [World.size_alloc, size_drew]); (try omega))
      case hsbl => (have q1 := (Hid.out b1).size; have q2 := (Hid.out b2).size; have q3 := (Hid.out b3).size; (try simp only [World.size_alloc, size_drew] at q1); (try simp only [World.size_alloc] at q2); (try simp only [World.size_alloc] at q3); (try simp only [World.size_alloc, size_drew]); (try omega))
  case rest =>
    clear mkB mkC HCN HCN2 BW hcs
    obtain ⟨SB, rfl, hb⟩ := hcut
    have hb' := Hid.out hb
    unfold BegSm at hb'
    obtain ⟨c, m, rfl, hf, ha, hkn, h0⟩ := hb'
    have H0 := hid h0
    have Hf := hid hf
    have Ha := hid ha
    have Hkn := hid hkn
    clear h0 hb hf ha hkn
    have hlenI : (len : Int) ≤ 9223372036854775807 := by omega
    go_wp2
    go_loopw [30] (fun i wr => ∃ (q : Nat) (g1 : G) (m1 : MV), q ≤ len ∧ i = .int .i64 q ∧ Hid (Sm c w g1 (begF n (l.take q)) m1 wr) ∧ Hid (Gb n (l.take q) g1)) (fun i _ => len - (intOf i).toNat)
    case atStart => exact ⟨0, g0, m, Nat.zero_le _, rfl, H0, hid ⟨rfl, tot_g0 n, rfl, rfl, rfl⟩⟩
    case round =>
      clear H0
      obtain ⟨q, g1, m1, hq, rfl, h1, b1⟩ := hrel
      by_cases hlt : q < len
      · have hlt' : (q : Int) < len := by omega
        obtain ⟨b, off, a2, n2, c2', ys, rfl, hc, hy, hr⟩ := (HL.out).at hlt
        have hc1 := bl_low h1.out.b0 hc
        have hym := HX.out ys (List.mem_of_getElem? hy.out)
        have hn2 := hid (show n2 = ys.length by have := hr.out.1; omega)
        have HR : Hid (GVt w wr m1.ow [.slice a2 n2 c2'] [ys]) := hid (gv_old h1.out.b0 hr.out)
        have hA := hid (add_s h1.out HR.out (by have := hn2.out; have := hym.1; omega) (by rw [Hkn.out]; exact hym.2) (by have := b1.out.nx; have := List.length_take_le q l; rw [b1.out.nx]; have := HL.out.1; simp; omega) (by rw [Hkn.out, b1.out.pl]; have := HL.out.1; simp; omega) (by rw [beg_cls]; have := HL.out.1; simp; omega))
        have hmx : (n2 : Int) ≤ 9223372036854775807 := by have := hym.1; have := hn2.out; omega
        have HY := hid hym.2
        go_wp2_with (first
          | (go_at_call 28; with_reducible (refine hA.out.mono ?_); rintro e w4 ⟨g4, rfl, n4, d4⟩; have n5 := Nx.out n4.out; obtain ⟨m4, h4, k4⟩ := n5))
        have H4 : Hid (Sm c w g4 (upO ((begF n (l.take q)).C ((begF n (l.take q)).cls ++ [ys])) (begF n (l.take q)).A (pushsF n (begF n (l.take q)).W (ys.take 0))) m4 w4) := hid (by exact h4.out)
        have G4 : Hid (Gb n (l.take (q + 1)) g4) := hid (b1.out.next hy.out (by have := d4.out; rw [Hkn.out] at this; exact this))
        have R4 : Hid (GVt w w4 m4.ow [.slice a2 n2 c2'] [ys]) := hid (k4.out.gv _ _ HR.out)
        clear hA h1 h4 n4 d4 HR hc1 k4 b1 hym hr
        go_loopw [39] (fun i wz => ∃ (p : Nat) (m6 : MV), p ≤ n2 ∧ i = .int .i64 p ∧ Hid (Sm c w g4 (upO ((begF n (l.take q)).C ((begF n (l.take q)).cls ++ [ys])) (begF n (l.take q)).A (pushsF n (begF n (l.take q)).W (ys.take p))) m6 wz) ∧ Hid (GVt w wz m6.ow [.slice a2 n2 c2'] [ys])) (fun i _ => n2 - (intOf i).toNat)
        case atStart => exact ⟨0, m4, Nat.zero_le _, rfl, H4, R4⟩
        case round =>
          clear H4 R4
          obtain ⟨p, m6, hp, rfl, h6, r6⟩ := hrel
          by_cases hpl : p < n2
          · have hpl' : (p : Int) < n2 := by omega
            obtain ⟨b2, off2, y, rfl, hcy, hyy, y0, y1⟩ := r6.out.one.at hpl
            have HU : Hid (pushsF n (begF n (l.take q)).W (ys.take (p + 1)) = Od.pushW n (pushsF n (begF n (l.take q)).W (ys.take p)) (U.varF y)) := hid (pushs_next hyy.out)
            obtain ⟨m7, h7, k7⟩ := h6.out.xbelow (below_drew _)
            have c27 := h6.out.c2
            have H7 := hid h7
            have R7 := hid (k7.gv _ _ r6.out)
            clear h7 k7 h6 r6
            go_wp2
            go_region_with (first
              | (go_at_call 24; with_reducible (refine (U.var_any y _ y1).mono ?_); rintro e w8 ⟨rfl, b8⟩; have n8 := Nx.out (H7.out.xbelow b8); obtain ⟨m8, h8, k8⟩ := n8; have c28 := h8.out.c2)
              | (go_at_call 29; with_reducible (refine (spush h8.out (U.varF y)).mono ?_); rintro e w9 ⟨bb, rfl, n9⟩; have n10 := Nx.out n9.out; obtain ⟨m9, h9, k9⟩ := n10))
            all_goals go_wp2
            all_goals go_roundw
            all_goals first
              | exact ⟨p + 1, m9, by omega, by go_num, hid (by rw [HU.out]; have := h9.out; rw [Hkn.out] at this; exact this), hid (k9.out.gv _ _ (k8.out.gv _ _ R7.out))⟩
              | (simp only [intOf]; omega)
          · have HT : Hid (ys.take p = ys) := hid (List.take_of_length_le (by have := hn2.out; omega))
            have HE : Hid (Sm c w g4 (begF n (l.take (q + 1))) m6 wr) := hid (by rw [beg_next hy.out]; have := h6.out; rw [HT.out] at this; exact this)
            clear h6 r6
            go_wp2
            go_roundw
            case rel => exact ⟨q + 1, g4, m6, by omega, by go_num, HE, G4⟩
            case measure => simp only [intOf]; omega
      · have HT : Hid (l.take q = l) := hid (List.take_of_length_le (by have := HL.out.1; omega))
        rw [HT.out] at h1 b1
        have hN := hid (next_is h1.out (by rw [(beg_rd n l).1]; omega) (by rw [(beg_rd n l).2]; omega))
        go_wp2_with (first
          | (go_at_call 30; with_reducible (refine hN.out.mono ?_); rintro e w4 ⟨rfl, n4⟩; have n5 := Nx.out n4; obtain ⟨m4, h4, k4⟩ := n5))
        go_ret
        exact ⟨_, rfl, c, g1, m4, rfl, by rw [Hf.out]; exact HL.out.1.symm, Ha.out.trans hall.symm, Hkn.out, h4, b1⟩
end
end Go.Proofs.YtimfjoinjfecjaaGreat
