/-
  What the chapter itself names, and others: awake.
-/
import Derived.Test.YtifecnnkkbpglaaLb
import Derived.Handy
namespace Go.Proofs.Ytifecnnkkbpglaa
open Go.RowKit
set_option linter.unusedVariables false

theorem REnd.go {B : BT} {gb : Nat} {is : List Int} {n0 : Nat} {v0 : Nat → Bool} {k k1 : Nat} {w w1 w' : World} {rb m : Nat} {S : Nat → Bool} {n : Nat} {cs : List (List Int)} {val : Nat → Bool} (e : REnd B gb is n val k1 w1 w' rb m S) (s : Sx B gb is n0 v0 k w w1 n cs val) :
    ∃ n' cs' val' zs, n ≤ n' ∧ Hid (Sx B gb is n0 v0 (k + k1) w w' n' cs' val') ∧ Hid (∀ i, i < n → val' i = val i) ∧ Hid (FG B w1 w') ∧ Hid (TR w' (some ⟨rb, 0, none⟩) m m zs) ∧ Hid (Lits n' val' zs m S) := by
  obtain ⟨n', cs', val', zs, t, h1, h2, _⟩ := e
  exact ⟨n', cs', val', zs, t.lo, s.on t, t.ag, t.f, h1, h2⟩
theorem YEnd.go {B : BT} {gb : Nat} {is : List Int} {n0 : Nat} {v0 : Nat → Bool} {k k1 : Nat} {w w1 w' : World} {y : Int} {r : Bool} {n : Nat} {cs : List (List Int)} {val : Nat → Bool} (e : YEnd B gb is n val k1 w1 w' y r) (s : Sx B gb is n0 v0 k w w1 n cs val) :
    ∃ n' cs' val', n ≤ n' ∧ Hid (Sx B gb is n0 v0 (k + k1) w w' n' cs' val') ∧ Hid (∀ i, i < n → val' i = val i) ∧ Hid (FG B w1 w') ∧ Hid (rng n' y) ∧ Hid (hd val' y = r) := by
  obtain ⟨n', cs', val', t, h1, h2⟩ := e
  exact ⟨n', cs', val', t.lo, s.on t, t.ag, t.f, h1, h2⟩

/-- A row that was made, and its literals: they stay. -/
def Rd (w : World) (ao : Option Addr) (m c : Nat) (n : Nat) (val : Nat → Bool) (xs : List Int) (A : Nat → Bool) : Prop := TR w ao m c xs ∧ Lits n val xs m A
theorem Rd.mk {w : World} {ao : Option Addr} {m c n : Nat} {val : Nat → Bool} {xs : List Int} {A : Nat → Bool} (h : TR w ao m c xs) (l : Lits n val xs m A) : Rd w ao m c n val xs A := ⟨h, l⟩
theorem Rd.t {w : World} {ao : Option Addr} {m c n : Nat} {val : Nat → Bool} {xs : List Int} {A : Nat → Bool} (h : Rd w ao m c n val xs A) : TR w ao m c xs := h.1
theorem Rd.l {w : World} {ao : Option Addr} {m c n : Nat} {val : Nat → Bool} {xs : List Int} {A : Nat → Bool} (h : Rd w ao m c n val xs A) : Lits n val xs m A := h.2
theorem Rd.step {B : BT} {w w' : World} {ao : Option Addr} {m c n n' : Nat} {val val' : Nat → Bool} {xs : List Int} {A : Nat → Bool} (h : Rd w ao m c n val xs A) (f : FG B w w') (hn : n ≤ n') (ha : ∀ i, i < n → val' i = val i) : Rd w' ao m c n' val' xs A := ⟨h.1.fg f, h.2.more hn ha⟩
theorem Rd.below {w w' : World} {ao : Option Addr} {m c n : Nat} {val : Nat → Bool} {xs : List Int} {A : Nat → Bool} (h : Rd w ao m c n val xs A) (b : Below w.heap.size w w') : Rd w' ao m c n val xs A := ⟨h.1.below b, h.2⟩
/-- A literal, and whether it holds. -/
def Yd (n : Nat) (val : Nat → Bool) (y : Int) (r : Bool) : Prop := rng n y ∧ hd val y = r
theorem Yd.mk {n : Nat} {val : Nat → Bool} {y : Int} {r : Bool} (h : rng n y) (l : hd val y = r) : Yd n val y r := ⟨h, l⟩
theorem Yd.r {n : Nat} {val : Nat → Bool} {y : Int} {r : Bool} (h : Yd n val y r) : rng n y := h.1
theorem Yd.h {n : Nat} {val : Nat → Bool} {y : Int} {r : Bool} (h : Yd n val y r) : hd val y = r := h.2
theorem Yd.step {n n' : Nat} {val val' : Nat → Bool} {y : Int} {r : Bool} (h : Yd n val y r) (hn : n ≤ n') (ha : ∀ i, i < n → val' i = val i) : Yd n' val' y r := ⟨rng_more h.1 hn, by rw [hd_agree ha h.1]; exact h.2⟩

theorem run_nil {n : Nat} {cs : List (List Int)} {val : Nat → Bool} (w : World) (g : Good n cs val []) (hn : n ≤ 10000) (go_ : Option Addr) (k : Nat) (hg : Grid w go_ k k cs) :
    Calls Try.prog 25 #[.int .i64 n, .slice none 0 0, .slice go_ k k] w fun e w' => ∃ kb ib, e = .returned (.tuple #[.agg #[.slice (some ⟨kb, 0, none⟩) n n, .slice (some ⟨ib, 0, none⟩) n n], .bool true]) ∧ Hid (Vs w' kb ib n (fun _ => true) val) ∧ Hid (Below w.heap.size w w') :=
  run_any w n hn none 0 0 [] (row_none w) go_ k k cs hg val [] g (fun h hh => by simp at hh) (fun x hx => by simp at hx)


end Go.Proofs.Ytifecnnkkbpglaa
