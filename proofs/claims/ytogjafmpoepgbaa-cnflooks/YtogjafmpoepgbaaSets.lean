/-
  A set of pairs of numbers that the call makes and keeps to itself: whatever it has was put in.
-/
import Derived.Test.YtogjafmpoepgbaaProg
import Derived.Maps.OwnSet
import Derived.DeepKeys4
import Derived.WalkKit
import Derived.Below
namespace Go.Proofs.Ytogjafmpoepgbaa
open Go.RowKit Go.Maps
set_option linter.unusedVariables false

theorem laidOutS : laidOutB Try.prog = true := by kernel_rfl
theorem row58 : (58 : TypeId) < Try.prog.types.size := of_decide_eq_true (by kernel_rfl)
theorem wide58 : (match Try.prog.underlying 58 with | some (.array _ _) | some (.struct _) => true | _ => false) = true := by kernel_rfl
theorem law58 : Keyed Try.prog 58 := Keyed.of_law (deep_law_laid laidOutS (m := 2) (by omega) row58 (by kernel_rfl) wide58)
theorem zero60 (w : World) : (zeroValue 60).run Try.prog w = .ok (.agg #[]) w := by kernel_rfl
theorem key58 : Try.prog.keyType 58 = true := by kernel_rfl
theorem size58 : Try.prog.types.size + 1 = 84 := by kernel_rfl

def sideV (p n : Nat) : Value := .agg #[.int .i64 p, .int .i64 n]

theorem side_inj {p n p' n' : Nat} (h : sideV p n = sideV p' n') : p = p' ∧ n = n' := by
  simp [sideV] at h; omega

theorem cells58' : Try.prog.cellsOf 58 = 2 := by kernel_rfl
theorem cells3' : Try.prog.cellsOf 3 = 1 := by kernel_rfl

theorem lits3 (d : Nat) (x : Int) (h : (Lit.int .i64 x).wf = true) : Try.prog.keyLits (d + 1) 3 [.int .i64 x] = some [.int .i64 x] := by
  unfold Program.keyLits
  rw [Try.underlying3]
  simp [h]

theorem lits58 (d : Nat) (x y : Int) (hx : (Lit.int .i64 x).wf = true) (hy : (Lit.int .i64 y).wf = true) : Try.prog.keyLits (d + 1 + 1) 58 [.int .i64 x, .int .i64 y] = some [.int .i64 x, .int .i64 y] := by
  unfold Program.keyLits
  rw [Try.underlying58]
  simp [cells58', cells3', lits3 d x hx, lits3 d y hy]

theorem side_key (p n : Nat) (hp : p ≤ 65535) (hn : n ≤ 65535) : ∃ kl, keyOf Try.prog 58 (sideV p n) = some kl := by
  have wp : (Lit.int .i64 (p : Int)).wf = true := by simp [Lit.wf, IntKind.min, IntKind.max, IntKind.signed, IntKind.bits]; omega
  have wn : (Lit.int .i64 (n : Int)).wf = true := by simp [Lit.wf, IntKind.min, IntKind.max, IntKind.signed, IntKind.bits]; omega
  have hf : (sideV p n).formed Try.prog 58 = true := by simp [sideV, Value.formed, Try.underlying58, cells58']
  have hl : Try.prog.keyLits (Try.prog.types.size + 1) 58 (sideV p n).cells.toList = some [.int .i64 p, .int .i64 n] := by
    rw [size58]
    exact lits58 82 p n wp wn
  unfold keyOf
  rw [Try.underlying58]
  dsimp only
  rw [if_pos (by rw [key58, hf]; rfl), hl]
  exact ⟨_, rfl⟩

/-- The map in block b has no pair that is not among those told. -/
def SetIs (w : World) (b k : Nat) (S : Nat → Nat → Prop) : Prop :=
  ∃ D : DataW Unit, w.ownsMap Try.prog 58 unitElem b k D ∧ ∀ p n kl, keyOf Try.prog 58 (sideV p n) = some kl → Maps.has D kl = true → S p n

theorem SetIs.made (w : World) (S : Nat → Nat → Prop) : SetIs (w.alloc (.map #[] 0)) w.heap.size 0 S :=
  ⟨.map [], World.ownsMap_made _ _ _ _, fun p n kl _ h => by simp [Maps.has] at h⟩

theorem SetIs.lt {w : World} {b k : Nat} {S : Nat → Nat → Prop} (h : SetIs w b k S) : b < w.heap.size := by
  obtain ⟨D, h, _⟩ := h; exact h.lt

theorem SetIs.same {w w' : World} {b k : Nat} {S : Nat → Nat → Prop} (h : SetIs w b k S) (e : w'.heap[b]? = w.heap[b]?) : SetIs w' b k S := by
  obtain ⟨D, ⟨es, clock, hb, r⟩, h2⟩ := h
  exact ⟨D, ⟨es, clock, by rw [e]; exact hb, r⟩, h2⟩

theorem SetIs.keep {w w' : World} {b k : Nat} {S : Nat → Nat → Prop} (h : SetIs w b k S) (hb : Below w.heap.size w w') : SetIs w' b k S :=
  h.same (hb.block _ h.lt)

theorem SetIs.more {w : World} {b k k' : Nat} {S S' : Nat → Nat → Prop} (h : SetIs w b k S) (hk : k ≤ k') (hs : ∀ p n, S p n → S' p n) : SetIs w b k' S' := by
  obtain ⟨D, h, h2⟩ := h
  exact ⟨D, h.mono hk, fun p n kl e hh => hs _ _ (h2 p n kl e hh)⟩

/-- Is a pair there? -/
theorem set_lookup {w : World} {ops : Array Oper} {rest : List Oper} {o : Oper} {a : Act} {Q : Exit → Act → World → Prop} (hg : o.guard = none) (m x : Operand) (hop : o.op = Op.lookup 56 m x true)
    (b k : Nat) (S : Nat → Nat → Prop) (hm : a.eval m = .map (some b)) (hown : SetIs w b k S) (p n : Nat) (hp : p ≤ 65535) (hn : n ≤ 65535) (hx : a.eval x = sideV p n)
    (hK : ∀ is : Bool, Hid (is = true → S p n) → wpList Try.prog ops Q rest (a.put o.dst (.tuple #[.agg #[], .bool is])) w) : wpList Try.prog ops Q (o :: rest) a w := by
  obtain ⟨kl, hkl⟩ := side_key p n hp hn
  obtain ⟨D, h, h2⟩ := hown
  exact wpList_lookup_own_unit w hg m x 56 hop 58 60 law58 Try.underlying56 (zero60 _) b k D hm h _ kl hx hkl (hK _ fun e => h2 p n kl hkl e)

/-- One pair more. -/
theorem set_put {w : World} {ops : Array Oper} {rest : List Oper} {o : Oper} {a : Act} {Q : Exit → Act → World → Prop} (hg : o.guard = none) (m x v : Operand) (hop : o.op = Op.mapUpdate 56 m x v)
    (b k : Nat) (S : Nat → Nat → Prop) (hm : a.eval m = .map (some b)) (hown : SetIs w b k S) (hk : k ≤ 65535) (p n : Nat) (hp : p ≤ 65535) (hn : n ≤ 65535) (hx : a.eval x = sideV p n) (hv : a.eval v = .agg #[])
    (hK : ∀ w', Hid (SetIs w' b (k + 1) (fun q r => S q r ∨ (q = p ∧ r = n))) → Hid (w.grownBy w' (some b)) → wpList Try.prog ops Q rest (a.put o.dst undef) w') : wpList Try.prog ops Q (o :: rest) a w := by
  obtain ⟨kl, hkl⟩ := side_key p n hp hn
  obtain ⟨D, h, h2⟩ := hown
  refine wpList_mapUpdate_own w hg m x v 56 hop 58 60 law58 Try.underlying56 (unitElem (H := Unit)) b k D hm h (by unfold maxLen; omega) _ _ kl hx hv hkl _ [] unitElem_mk ?_
  intro w' h3 h4
  refine hK w' ⟨_, h3, fun q r kq hq hh => ?_⟩ h4
  by_cases e : kq = kl
  · subst e
    exact .inr (side_inj (law58.inj hq hkl))
  · rw [has_put_other e] at hh
    exact .inl (h2 q r kq hq hh)

end Go.Proofs.Ytogjafmpoepgbaa
