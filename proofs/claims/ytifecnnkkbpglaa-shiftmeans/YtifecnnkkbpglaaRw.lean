/-
  The law's own Row: of some bits new inputs, of others constants.
-/
import Derived.Test.YtifecnnkkbpglaaAc
import Derived.Test.YtifecnnkkbpglaaAp
namespace Go.Proofs.Ytifecnnkkbpglaa
open Go.RowKit
set_option linter.unusedVariables false

theorem Own.typ {w : World} {C : Nat} {v : Value} {xs : List Int} (h : Own w C v xs) {j : Nat} (hj : v.ownBlock = some j) : Typ w j 3 := by
  rcases h.1.2 with ⟨rfl, hn⟩ | ⟨g, cap, cur, rfl, hb, hg, _⟩
  · simp [Value.ownBlock] at hj
  · simp [Value.ownBlock] at hj; subst hj; exact typ_of hg

theorem Typ.one {w : World} {j : Nat} {T T' : TypeId} (h : Typ w j T) (g : Typ w j T') : T = T' := by
  obtain ⟨c, f, h⟩ := h
  obtain ⟨c', f', g⟩ := g
  rw [h] at g
  cases g; rfl

theorem own_keep2 {w w' : World} {base : Nat} {E : TypeId} {sz : Nat} {v : Value} {n : Nat} {xs : List Value} {r : Option Nat} (h : w.ownsRow base E sz v n xs) (g : w.grownBy w' r)
    (hr : ∀ j, v.ownBlock = some j → r ≠ some j) : w'.ownsRow base E sz v n xs := by
  refine ⟨h.1, ?_⟩
  rcases h.2 with h2 | ⟨b, cap, cur, rfl, hb, hg, rest⟩
  · exact .inl h2
  · refine .inr ⟨b, cap, cur, rfl, hb, ?_, rest⟩
    rw [g.block b (blk_lt hg) (fun e => hr b rfl e.symm)]; exact hg

/-- What has changed since w lies in newer blocks, or is the gates'. -/
theorem FG.app {B : BT} {w wr w' : World} {r : Option Nat} (f : FG B w wr) (g : wr.grownBy w' r) (hr : ∀ j, r = some j → w.heap.size ≤ j) : FG B w w' := by
  refine ⟨g.os.trans f.os, g.tape.trans f.tape, g.output.trans f.output, Nat.le_trans f.size g.size, fun j T ht h1 h2 => ?_, fun j hj hl => ?_⟩
  · have := ht.lt
    rw [g.block j (Nat.lt_of_lt_of_le this f.size) (fun e => by have := hr j e.symm; omega)]
    exact f.block j T ht h1 h2
  · rw [g.block j (Nat.lt_of_lt_of_le hl f.size) (fun e => by have := hr j e.symm; omega)]
    exact f.old j hj hl

def BT.two (B : BT) (rv hv : Value) : BT := ⟨B.n, fun b => B.T b ∨ rv.ownBlock = some b ∨ hv.ownBlock = some b⟩
theorem FG.two {B : BT} {w w' : World} {rv hv : Value} (f : FG (B.two rv hv) w w') : FG B w w' := ⟨f.os, f.tape, f.output, f.size, f.block, f.old⟩

/-- A row is made, and what holds of its inputs. -/
structure RwS (B : BT) (gb : Nat) (wE wr : World) (x : Int) (is0 : List Int) (n0 : Nat) (v0 : Nat → Bool) (k q : Nat) (rv hv : Value) (xs hs : List Int) (n : Nat) (cs : List (List Int)) (val : Nat → Bool) (is : List Int) : Prop where
  lo : n0 ≤ n
  hi : n ≤ n0 + k
  g : Good n cs val is
  ag : ∀ i, i < n0 → val i = v0 i
  h : Gt (B.two rv hv) gb wr n cs
  f : FG B wE wr
  o1 : Own wr wE.heap.size rv xs
  o2 : Own wr wE.heap.size hv hs
  ne : ∀ j, rv.ownBlock = some j → hv.ownBlock ≠ some j
  lx : xs.length = q
  hl : hs.length ≤ k
  rx : ∀ y ∈ xs, rng n y
  vx : ∀ (j : Nat) (y : Int), xs[j]? = some y → hd val y = Wd.bitB x j
  rh : ∀ y ∈ hs, rng n y ∧ hd val y = true
  cv : ∀ y ∈ is, y ∈ is0 ∨ ∃ z ∈ hs, (z / 2).toNat = (y / 2).toNat

section
variable {B : BT} {gb : Nat} {wE wr w2 w' : World} {x : Int} {is0 : List Int} {n0 : Nat} {v0 : Nat → Bool} {k q : Nat} {rv hv rv' hv' : Value} {xs hs : List Int} {n : Nat} {cs : List (List Int)} {val : Nat → Bool} {is : List Int} {y : Int}

theorem RwS.start (g : Good n cs val is) (h : Gt B gb wE n cs) : RwS B gb wE wE x is n val 0 0 (.slice none 0 0) (.slice none 0 0) [] [] n cs val is :=
  ⟨Nat.le_refl _, Nat.le_refl _, g, fun _ _ => rfl, h.hop rfl (World.grownBy.refl _ none) (fun j T hj => by cases hj) (fun b hb => by
    rcases hb with hb | hb | hb
    · exact ⟨h.tl b hb, .inl hb⟩
    · simp [Value.ownBlock] at hb
    · simp [Value.ownBlock] at hb), FG.refl _, Own.nil _ _, Own.nil _ _, fun j hj => by simp [Value.ownBlock] at hj, rfl, by simp, fun y hy => by simp at hy, fun j y hy => by simp at hy, fun y hy => by simp at hy, fun y hy => .inl hy⟩

theorem RwS.below (s : RwS B gb wE wr x is0 n0 v0 k q rv hv xs hs n cs val is) (b : Below wr.heap.size wr w') : RwS B gb wE w' x is0 n0 v0 k q rv hv xs hs n cs val is :=
  ⟨s.lo, s.hi, s.g, s.ag, s.h.below b, s.f.trans (FG.below b), s.o1.keep b, s.o2.keep b, s.ne, s.lx, s.hl, s.rx, s.vx, s.rh, s.cv⟩
theorem RwS.mono {k' : Nat} (s : RwS B gb wE wr x is0 n0 v0 k q rv hv xs hs n cs val is) (h : k ≤ k') : RwS B gb wE wr x is0 n0 v0 k' q rv hv xs hs n cs val is :=
  ⟨s.lo, by have := s.hi; omega, s.g, s.ag, s.h, s.f, s.o1, s.o2, s.ne, s.lx, by have := s.hl; omega, s.rx, s.vx, s.rh, s.cv⟩

/-- The row has one literal more. -/
theorem RwS.row (s : RwS B gb wE wr x is0 n0 v0 k q rv hv xs hs n cs val is) (hn : n ≤ 10000) (hy : rng n y) (hb : hd val y = Wd.bitB x q)
    (own : w'.ownsRow wE.heap.size 3 1 rv' (xs.length + 1) (xs.map (Value.int .i64) ++ [.int .i64 y])) (gr : wr.grownBy w' rv.ownBlock) (ls : Lies wr rv rv') :
    RwS B gb wE w' x is0 n0 v0 k (q + 1) rv' hv (xs ++ [y]) hs n cs val is := by
  refine ⟨s.lo, s.hi, s.g, s.ag, s.h.hop rfl gr (fun j T hj ht => ⟨.inl (.inr (.inl hj)), ?_⟩) (fun b hb' => ?_), s.f.app gr (fun j hj => (s.o1.1.lt j hj).1), ⟨?_, fit_append s.o1.2 (fun z hz => by rw [List.mem_singleton] at hz; subst hz; exact rng_fit hy hn)⟩, ⟨own_keep2 s.o2.1 gr (fun j hj e => s.ne j e hj), s.o2.2⟩, fun j hj e => ?_, by simp [s.lx], s.hl, fun z hz => ?_, fun j z hz => ?_, s.rh, s.cv⟩
  · have := (s.o1.typ hj).one ht
    subst this
    exact ⟨by decide, by decide⟩
  · rcases hb' with hb' | hb' | hb'
    · exact ⟨Nat.lt_of_lt_of_le (s.h.tl b (.inl hb')) gr.size, .inl (.inl hb')⟩
    · exact ⟨(own.lt b hb').2, or_map (ls b hb') (fun e => .inr (.inl e)) id⟩
    · exact ⟨Nat.lt_of_lt_of_le (s.o2.1.lt b hb').2 gr.size, .inl (.inr (.inr hb'))⟩
  · rw [List.length_append, List.map_append]; exact own
  · rcases ls j hj with e2 | e2
    · exact s.ne j e2 e
    · have := (s.o2.1.lt j e).2; omega
  · rcases List.mem_append.1 hz with hz | hz
    · exact s.rx z hz
    · rw [List.mem_singleton] at hz; subst hz; exact hy
  · by_cases hj : j < xs.length
    · rw [List.getElem?_append_left hj] at hz
      exact s.vx j z hz
    · rw [List.getElem?_append_right (by omega)] at hz
      have hj2 : j = xs.length := by
        have := (List.getElem?_eq_some_iff.1 hz).1
        simp at this; omega
      subst hj2
      simp at hz
      subst hz
      rw [s.lx]; exact hb

/-- A new input, and what holds of it. -/
theorem RwS.inp (s : RwS B gb wE wr x is0 n0 v0 k q rv hv xs hs n cs val is) (hn : n ≤ 5000) (b : Bool) (h2 : Gt (B.two rv hv) gb w2 (n + 1) cs) (f2 : FG (B.two rv hv) wr w2) (hy : y = if b then 2 * (n : Int) else 2 * (n : Int) + 1)
    (own : w'.ownsRow wE.heap.size 3 1 hv' (hs.length + 1) (hs.map (Value.int .i64) ++ [.int .i64 y])) (gr : w2.grownBy w' hv.ownBlock) (ls : Lies w2 hv hv') :
    RwS B gb wE w' x is0 n0 v0 (k + 1) q rv hv' xs (hs ++ [y]) (n + 1) cs (upV val n b) (is ++ [2 * (n : Int)]) := by
  have hag := up_agree val n b
  have o1 := s.o1.fg f2
  have o2 := s.o2.fg f2
  have hry : rng (n + 1) y := by rw [hy]; unfold rng; split <;> omega
  have hvy : hd (upV val n b) y = true := by
    rw [hy]
    cases b
    · have : (2 * (n : Int) + 1) = notF (2 * (n : Int)) := by simp [notF]; omega
      simp only [Bool.false_eq_true, if_false]
      rw [this, hd_newn]; rfl
    · simp only [if_true]
      rw [hd_new]
  have hyh : (y / 2).toNat = n := by rw [hy]; split <;> omega
  refine ⟨by have := s.lo; omega, by have := s.hi; omega, s.g.input b, fun i hi => ?_, h2.hop rfl gr (fun j T hj ht => ⟨.inl (.inr (.inr hj)), ?_⟩) (fun b hb' => ?_), (s.f.trans f2.two).app gr (fun j hj => (o2.1.lt j hj).1), ⟨own_keep2 o1.1 gr (fun j hj e => s.ne j hj e), o1.2⟩, ⟨?_, fit_append o2.2 (fun z hz => by rw [List.mem_singleton] at hz; subst hz; exact rng_fit hry (by omega))⟩, fun j hj e => ?_, s.lx, by have := s.hl; simp; omega, fun z hz => rng_more (s.rx z hz) (by omega), fun j z hz => ?_, fun z hz => ?_, fun z hz => ?_⟩
  · rw [hag i (by have := s.lo; omega)]; exact s.ag i hi
  · have := (o2.typ hj).one ht
    subst this
    exact ⟨by decide, by decide⟩
  · rcases hb' with hb' | hb' | hb'
    · exact ⟨Nat.lt_of_lt_of_le (h2.tl b (.inl hb')) gr.size, .inl (.inl hb')⟩
    · exact ⟨Nat.lt_of_lt_of_le (o1.1.lt b hb').2 gr.size, .inl (.inr (.inl hb'))⟩
    · exact ⟨(own.lt b hb').2, or_map (ls b hb') (fun e => .inr (.inr e)) id⟩
  · rw [List.length_append, List.map_append]; exact own
  · rcases ls j e with e2 | e2
    · exact s.ne j hj e2
    · have := (o1.1.lt j hj).2; omega
  · rw [hd_agree hag (s.rx z (List.mem_of_getElem? hz))]; exact s.vx j z hz
  · rcases List.mem_append.1 hz with hz | hz
    · obtain ⟨r1, r2⟩ := s.rh z hz
      exact ⟨rng_more r1 (by omega), by rw [hd_agree hag r1]; exact r2⟩
    · rw [List.mem_singleton] at hz; subst hz; exact ⟨hry, hvy⟩
  · rcases List.mem_append.1 hz with hz | hz
    · rcases s.cv z hz with h | ⟨u, hu, e⟩
      · exact .inl h
      · exact .inr ⟨u, by simp [hu], e⟩
    · rw [List.mem_singleton] at hz; subst hz
      exact .inr ⟨y, by simp, by rw [hyh]; omega⟩
end

/-- What Row tells. -/
def RwEnd (B : BT) (gb : Nat) (wE w' : World) (x : Int) (is0 : List Int) (n0 : Nat) (v0 : Nat → Bool) (m : Nat) (ao ho : Option Addr) (c1 l2 c2 : Nat) : Prop :=
  ∃ xs hs n cs val is, n0 ≤ n ∧ n ≤ n0 + m ∧ Good n cs val is ∧ (∀ i, i < n0 → val i = v0 i) ∧ Gt B gb w' n cs ∧ FG B wE w' ∧ TR w' ao m c1 xs ∧ TR w' ho l2 c2 hs ∧ l2 ≤ m ∧ Lits n val xs m (fun j => Wd.bitB x j) ∧ (∀ y ∈ hs, rng n y ∧ hd val y = true) ∧ (∀ y ∈ is, y ∈ is0 ∨ ∃ z ∈ hs, (z / 2).toNat = (y / 2).toNat)

theorem RwS.end {B : BT} {gb : Nat} {wE wr : World} {x : Int} {is0 : List Int} {n0 : Nat} {v0 : Nat → Bool} {m : Nat} {rv hv : Value} {xs hs : List Int} {n : Nat} {cs : List (List Int)} {val : Nat → Bool} {is : List Int} (s : RwS B gb wE wr x is0 n0 v0 m m rv hv xs hs n cs val is) :
    ∃ ao c1 ho l2 c2, rv = .slice ao m c1 ∧ hv = .slice ho l2 c2 ∧ RwEnd B gb wE wr x is0 n0 v0 m ao ho c1 l2 c2 := by
  obtain ⟨ao, c1, e1, t1⟩ := s.o1.trow (T := fun _ => False) (fun b hb => hb.elim)
  obtain ⟨ho, c2, e2, t2⟩ := s.o2.trow (T := fun _ => False) (fun b hb => hb.elim)
  rw [s.lx] at e1 t1
  refine ⟨ao, c1, ho, hs.length, c2, e1, e2, xs, hs, n, cs, val, is, s.lo, s.hi, s.g, s.ag, s.h.hop rfl (World.grownBy.refl _ none) (fun j T hj => by cases hj) (fun b hb => ⟨s.h.tl b (.inl hb), .inl (.inl hb)⟩), s.f, t1, t2, s.hl, ⟨s.lx, s.rx, s.vx⟩, s.rh, s.cv⟩

theorem input_gt {B : BT} {gb n : Nat} {cs : List (List Int)} (w : World) (h : Gt B gb w n cs) (hn : n ≤ 10000) (y : Int) (hy : y = 2 * (n : Int)) :
    Calls Try.prog 15 #[.pointer (some ⟨gb, 0, none⟩)] w fun e w' => e = .returned (.int .i64 y) ∧ Hid (Gt B gb w' (n + 1) cs) ∧ Hid (FG B w w') := by
  obtain ⟨v, c0, c1, f0, f1, ho⟩ := h.cells
  refine (input_any gb n w c0 f0 (by omega)).mono ?_
  rintro e w' ⟨rfl, rfl⟩
  exact ⟨by rw [hy], hid h.var.1, hid h.var.2⟩

theorem xor_even (n : Nat) (hn : n ≤ 10000) : bits .xor .i64 (2 * (n : Int)) 1 = 2 * (n : Int) + 1 := by
  have e : (2 * (n : Int)) = ((2 * n : Nat) : Int) := by omega
  have k : (2 * n) ^^^ 1 = 2 * n + 1 := by
    apply Nat.eq_of_testBit_eq
    intro i
    rw [Nat.testBit_xor]
    cases i with
    | zero => simp [Nat.testBit_zero]
    | succ i =>
      simp only [Nat.testBit_succ]
      rw [show 2 * n / 2 = n by omega, show (2 * n + 1) / 2 = n by omega]
      simp
  rw [e]
  show IntKind.i64.wrap ((BitVec.ofInt 64 ((2 * n : Nat) : Int) ^^^ BitVec.ofInt 64 ((1 : Nat) : Int)).toNat : Int) = _
  rw [BitVec.toNat_xor, ofInt_u64 (2 * n) (by omega), ofInt_u64 1 (by omega), k, IntKind.wrap_i64]
  omega

set_option maxHeartbeats 8000000 in
theorem row_any {B : BT} {gb n : Nat} {cs : List (List Int)} {val : Nat → Bool} {is : List Int} (w : World) (g : Good n cs val is) (h : Gt B gb w n cs) (hn : n ≤ 1000) (m : Nat) (hm : m ≤ 64) (x inn : Int) (x0 : 0 ≤ x) (x1 : x < 18446744073709551616) (i0 : 0 ≤ inn) (i1 : inn < 18446744073709551616) :
    Calls Try.prog 8 #[.pointer (some ⟨gb, 0, none⟩), .int .i64 m, .int .u64 x, .int .u64 inn] w fun e w' => ∃ ao c1 ho l2 c2, e = .returned (.tuple #[.slice ao m c1, .slice ho l2 c2]) ∧ Hid (RwEnd B gb w w' x is n val m ao ho c1 l2 c2) := by
  have L0 : Hid (∃ xs hs n2 cs2 val2 is2, RwS B gb w w x is n val 0 0 (.slice none 0 0) (.slice none 0 0) xs hs n2 cs2 val2 is2) := hid ⟨_, _, _, _, _, _, RwS.start g h⟩
  clear g h
  go_enter Try.func8, Try.ntmps8
  go_wp2
  go_loopw [10, 11, 12, 13, 14] (fun rv hv i _ _ wr => ∃ q : Nat, q ≤ m ∧ i = .int .i64 q ∧ Hid (∃ xs hs n2 cs2 val2 is2, RwS B gb w wr x is n val q q rv hv xs hs n2 cs2 val2 is2)) (fun _ _ i _ _ _ => m - (intOf i).toNat)
  case atStart => exact ⟨0, Nat.zero_le _, rfl, L0⟩
  case round =>
    clear L0
    obtain ⟨q, hq, rfl, hst⟩ := hrel
    obtain ⟨xs, hs, n2, cs2, val2, is2, lp⟩ := hst.out
    have LP := hid lp
    have n2b : n2 ≤ 2000 := by have := lp.hi; omega
    have hxl : Hid (xs.length ≤ 100) := hid (by rw [lp.lx]; omega)
    have hhl : Hid (hs.length ≤ 100) := hid (by have := lp.hl; omega)
    obtain ⟨ra, rn, rc, rfl, _⟩ := lp.o1.shape
    obtain ⟨ha, hn2, hc2, rfl, _⟩ := lp.o2.shape
    clear lp hst
    by_cases hlt : q < m
    · have hlt' : (q : Int) < m := by omega
      have q64 : q < 64 := by omega
      have hbit := fun (w : World) => Wd.rbit_any x q w x0 x1 q64
      cases hi : Wd.bitB inn q
      · have hi2 : ((inn / 2 ^ q).tmod 2 == 1) = false := hi
        clear hi
        cases hb : Wd.bitB x q
        · have HB := hid hb
          have hx01 : bits .xor .i64 0 1 = 1 := by decide +kernel
          have HSZ : Hid (w.heap.size ≤ wr.heap.size) := hid LP.out.f.size
          go_wp2_with (first
            | (go_at_call 14; with_reducible (refine (true_any gb _).mono ?_); rintro e w3 ⟨rfl, rfl⟩)
            | (go_at_call 16; with_reducible (refine (hbit _).mono ?_); rintro e w4 ⟨rfl, rfl⟩; rw [HB.out])
            | (at_builtin; refine wpList_app rfl _ _ 29 3 rfl Try.underlying29 (.int .i64 0) 1 8 rfl (by decide) Try.info3 (by decide) [.int .i64 1] rfl rfl (ints_one [1]) w.heap.size xs.length _ _ rfl LP.out.o1.1 rfl (Nat.le_trans hxl.out (by decide)) HSZ.out ?_; intro v6 w6 own6 g6 l6))
          have LP7 := hid (LP.out.row (by omega) (rng_one LP.out.g.pos) (by rw [hd_one LP.out.g, HB.out]) own6.out g6.out l6.out)
          go_wp2
          go_roundw
          case rel => exact ⟨q + 1, by omega, by go_num, hid ⟨_, _, _, _, _, _, LP7.out.mono (by omega)⟩⟩
          case measure => simp only [intOf]; omega
        · have HB := hid hb
          have hx01 : bits .xor .i64 0 1 = 1 := by decide +kernel
          have HSZ : Hid (w.heap.size ≤ wr.heap.size) := hid LP.out.f.size
          go_wp2_with (first
            | (go_at_call 14; with_reducible (refine (true_any gb _).mono ?_); rintro e w3 ⟨rfl, rfl⟩)
            | (go_at_call 16; with_reducible (refine (hbit _).mono ?_); rintro e w4 ⟨rfl, rfl⟩; rw [HB.out])
            | (at_builtin; refine wpList_app rfl _ _ 29 3 rfl Try.underlying29 (.int .i64 0) 1 8 rfl (by decide) Try.info3 (by decide) [.int .i64 0] rfl rfl (ints_one [0]) w.heap.size xs.length _ _ rfl LP.out.o1.1 rfl (Nat.le_trans hxl.out (by decide)) HSZ.out ?_; intro v6 w6 own6 g6 l6))
          have LP7 := hid (LP.out.row (by omega) (rng_zero LP.out.g.pos) (by rw [hd_zero LP.out.g, HB.out]) own6.out g6.out l6.out)
          go_wp2
          go_roundw
          case rel => exact ⟨q + 1, by omega, by go_num, hid ⟨_, _, _, _, _, _, LP7.out.mono (by omega)⟩⟩
          case measure => simp only [intOf]; omega
      · have hi2 : ((inn / 2 ^ q).tmod 2 == 1) = true := hi
        obtain ⟨yi, hyi⟩ : ∃ yi, yi = 2 * (n2 : Int) := ⟨_, rfl⟩
        have HYI := hid hyi
        have hxor : bits .xor .i64 yi 1 = yi + 1 := by rw [hyi]; exact xor_even n2 (by omega)
        clear hi hyi
        cases hb : Wd.bitB x q
        · have HB := hid hb
          have HXB : Hid (w.heap.size ≤ wr.heap.size) := hid LP.out.f.size
          go_wp2_with (first
            | (go_at_call 14; with_reducible (refine (true_any gb _).mono ?_); rintro e w3 ⟨rfl, rfl⟩)
            | (go_at_call 15; with_reducible (refine (input_gt _ LP.out.h (by omega) yi HYI.out).mono ?_); rintro e w3 ⟨rfl, G3, F3⟩; have O3 := hid (LP.out.o2.fg F3.out); have Z3 := hid (Nat.le_trans HXB.out F3.out.size))
            | (go_at_call 16; with_reducible (refine (hbit _).mono ?_); rintro e w4 ⟨rfl, rfl⟩; rw [HB.out])
            | (at_builtin; refine wpList_app rfl _ _ 29 3 rfl Try.underlying29 (.int .i64 0) 1 8 rfl (by decide) Try.info3 (by decide) [.int .i64 (yi + 1)] rfl rfl (ints_one [(yi + 1)]) w.heap.size hs.length _ _ rfl O3.out.1 rfl (Nat.le_trans hhl.out (by decide)) Z3.out ?_; intro v5 w5 own5 g5 l5; have LP5 := hid (LP.out.inp (by omega) false G3.out F3.out (by rw [HYI.out]; rfl) own5.out g5.out l5.out); have Z5 := hid LP5.out.f.size)
            | (at_builtin; refine wpList_app rfl _ _ 29 3 rfl Try.underlying29 (.int .i64 0) 1 8 rfl (by decide) Try.info3 (by decide) [.int .i64 yi] rfl rfl (ints_one [yi]) w.heap.size xs.length _ _ rfl LP5.out.o1.1 rfl (Nat.le_trans hxl.out (by decide)) Z5.out ?_; intro v6 w6 own6 g6 l6))
          have LP7 := hid (LP5.out.row (by omega) (by rw [HYI.out]; exact y_rng n2) (by rw [HYI.out, hd_new, HB.out]) own6.out g6.out l6.out)
          go_wp2
          go_roundw
          case rel => exact ⟨q + 1, by omega, by go_num, hid ⟨_, _, _, _, _, _, LP7.out⟩⟩
          case measure => simp only [intOf]; omega
        · have HB := hid hb
          have HXB : Hid (w.heap.size ≤ wr.heap.size) := hid LP.out.f.size
          go_wp2_with (first
            | (go_at_call 14; with_reducible (refine (true_any gb _).mono ?_); rintro e w3 ⟨rfl, rfl⟩)
            | (go_at_call 15; with_reducible (refine (input_gt _ LP.out.h (by omega) yi HYI.out).mono ?_); rintro e w3 ⟨rfl, G3, F3⟩; have O3 := hid (LP.out.o2.fg F3.out); have Z3 := hid (Nat.le_trans HXB.out F3.out.size))
            | (go_at_call 16; with_reducible (refine (hbit _).mono ?_); rintro e w4 ⟨rfl, rfl⟩; rw [HB.out])
            | (at_builtin; refine wpList_app rfl _ _ 29 3 rfl Try.underlying29 (.int .i64 0) 1 8 rfl (by decide) Try.info3 (by decide) [.int .i64 yi] rfl rfl (ints_one [yi]) w.heap.size hs.length _ _ rfl O3.out.1 rfl (Nat.le_trans hhl.out (by decide)) Z3.out ?_; intro v5 w5 own5 g5 l5; have LP5 := hid (LP.out.inp (by omega) true G3.out F3.out (by rw [HYI.out]; rfl) own5.out g5.out l5.out); have Z5 := hid LP5.out.f.size)
            | (at_builtin; refine wpList_app rfl _ _ 29 3 rfl Try.underlying29 (.int .i64 0) 1 8 rfl (by decide) Try.info3 (by decide) [.int .i64 yi] rfl rfl (ints_one [yi]) w.heap.size xs.length _ _ rfl LP5.out.o1.1 rfl (Nat.le_trans hxl.out (by decide)) Z5.out ?_; intro v6 w6 own6 g6 l6))
          have LP7 := hid (LP5.out.row (by omega) (by rw [HYI.out]; exact y_rng n2) (by rw [HYI.out, hd_new, HB.out]) own6.out g6.out l6.out)
          go_wp2
          go_roundw
          case rel => exact ⟨q + 1, by omega, by go_num, hid ⟨_, _, _, _, _, _, LP7.out⟩⟩
          case measure => simp only [intOf]; omega
    · have hqm : q = m := by omega
      subst hqm
      obtain ⟨ao, c1, ho, l2, c2, e1, e2, RE⟩ := LP.out.end
      cases e1
      cases e2
      have RE := hid RE
      go_wp2
      go_ret2
      exact ⟨_, _, _, _, _, rfl, RE⟩

end Go.Proofs.Ytifecnnkkbpglaa
