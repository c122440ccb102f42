/-
  A trail in memory: what is known of each variable, the literals, and where the levels start.
-/
import Derived.Test.YtimpoagdidnpiaaMath
import Derived.WalkKit
import Derived.Deep.RegionWith
import Derived.BigQuiet
import Derived.LoopTactic
import Derived.Laws.AppendOwnNone
import Derived.Laws.OwnMore
import Derived.Laws.MakeOwn
import Derived.Laws.CopyOwn
import Derived.OwnWalk
import Derived.Handy
import Derived.Maps.AppendAt
namespace Go.Proofs.Ytimpoagdidnpiaa
open Go.RowKit
set_option linter.unusedVariables false

theorem hid {p : Prop} (h : p) : Hid p := h

theorem Try.info3 : (Try.prog.info? 3).map (fun i => (i.zero, i.size, i.bytes)) = some (some (.int .i64 0), 1, 8) := by kernel_rfl

theorem Below.next {w w1 w2 : World} (h : Below w.heap.size w w1) (k : Below w1.heap.size w1 w2) : Below w.heap.size w w2 :=
  h.trans (k.mono h.size)

theorem cell_lt {w : World} {p : Addr} {v : Value} (h : w.cell? p = some v) : p.block < w.heap.size := by
  by_cases hp : p.block < w.heap.size
  · exact hp
  · exfalso
    have e : w.heap[p.block]? = none := by simp; omega
    simp [World.cell?, e] at h

/-! ### Blocks -/
theorem grown_set (w : World) (a : Addr) (v : Value) : w.grownBy (w.setCell a v) (some a.block) :=
  ⟨rfl, rfl, rfl, by simp [World.setCell], fun k _ hne => Below.heap_setCell _ _ _ _ (fun e => hne (by rw [e]))⟩

theorem grown_new (w : World) (o : Obj) (r : Option Nat) : w.grownBy (w.alloc o) r := World.grownBy_alloc w o r

theorem grown_two {a b c : World} {r : Option Nat} (h : a.grownBy b r) (g : b.grownBy c r) : a.grownBy c r :=
  ⟨g.os.trans h.os, g.tape.trans h.tape, g.output.trans h.output, Nat.le_trans h.size g.size, fun k hk hn => (g.block k (Nat.lt_of_lt_of_le hk h.size) hn).trans (h.block k hk hn)⟩

theorem below_grown {w w' : World} {B : Nat} {r : Option Nat} (g : w.grownBy w' r) (hr : ∀ j, r = some j → B ≤ j) (hB : B ≤ w.heap.size) : Below B w w' :=
  ⟨g.os, g.tape, g.output, g.size, fun k hk => g.block k (by omega) (fun e => by have := hr k e.symm; omega)⟩

theorem grown_below {w w' : World} (b : Below w.heap.size w w') : w.grownBy w' none := ⟨b.os, b.tape, b.output, b.size, fun j hj _ => b.block j hj⟩

theorem blk_lt {w : World} {b : Nat} {o : Obj} (h : w.heap[b]? = some o) : b < w.heap.size := (Array.getElem?_eq_some_iff.1 h).1

theorem set_same {w : World} {b o : Nat} {c : Array Value} {T : TypeId} {fr : Nat × Nat} (h : w.heap[b]? = some (.cells c T fr)) (v : Value) : (w.setCell ⟨b, o, none⟩ v).heap[b]? = some (.cells (c.setIfInBounds o v) T fr) := by
  simp [World.setCell, Array.getElem?_modify, h]

theorem set_other {w : World} {a : Addr} {b : Nat} (v : Value) (h : b ≠ a.block) : (w.setCell a v).heap[b]? = w.heap[b]? := Below.heap_setCell _ _ _ _ h

theorem new_same (w : World) (o : Obj) : (w.alloc o).heap[w.heap.size]? = some o := by
  show (w.heap.push _)[w.heap.size]? = _; simp

theorem cell_of {w : World} {b o : Nat} {c : Array Value} {T : TypeId} {fr : Nat × Nat} (h : w.heap[b]? = some (.cells c T fr)) : w.cell? ⟨b, o, none⟩ = c[o]? := by simp [World.cell?, h]
theorem frozen_of {w : World} {b o : Nat} {c : Array Value} {T : TypeId} (h : w.heap[b]? = some (.cells c T (0, 0))) : w.frozen? ⟨b, o, none⟩ = false := by simp [World.frozen?, h]

theorem own_keep {w w' : World} {base : Nat} {E : TypeId} {sz : Nat} {v : Value} {n : Nat} {xs : List Value} {r : Option Nat} (h : w.ownsRow base E sz v n xs) (g : w.grownBy w' r)
    (hr : ∀ j, r = some j → v.ownBlock ≠ some j) : w'.ownsRow base E sz v n xs := by
  refine ⟨h.1, ?_⟩
  rcases h.2 with h2 | ⟨b, cap, cur, rfl, hb, hg, rest⟩
  · exact .inl h2
  · refine .inr ⟨b, cap, cur, rfl, hb, ?_, rest⟩
    rw [g.block b (blk_lt hg) (fun e => hr b e.symm rfl)]
    exact hg

theorem own_lt {w : World} {base : Nat} {E : TypeId} {sz : Nat} {v : Value} {n : Nat} {xs : List Value} (h : w.ownsRow base E sz v n xs) {j : Nat} (hj : v.ownBlock = some j) : base ≤ j ∧ j < w.heap.size := by
  rcases h.2 with ⟨rfl, _⟩ | ⟨b, cap, cur, rfl, hb, hg, _⟩
  · simp [Value.ownBlock] at hj
  · simp [Value.ownBlock] at hj; subst hj; exact ⟨hb, blk_lt hg⟩

theorem ints_one (xs : List Int) : ∀ v ∈ xs.map (Value.int .i64), v.oneCell' = true := by
  intro v hv
  obtain ⟨x, _, rfl⟩ := List.mem_map.1 hv
  rfl

theorem add_at {b off j : Nat} : (⟨b, off, none⟩ : Addr).add j = ⟨b, off + j, none⟩ := by
  by_cases h : j = 0
  · subst h; rfl
  · simp [Addr.add, h]

theorem below_drew (w : World) : Below w.heap.size w w.drew := ⟨rfl, rfl, rfl, Nat.le_refl _, fun _ _ => rfl⟩
theorem drewN_any (B : Nat) (w : World) (m : Nat) : Below B w (w.drewN m) := ⟨rfl, rfl, rfl, Nat.le_refl _, fun _ _ => rfl⟩

/-! ### Numbers one behind the other, of a block that is full to its end, or of one whose end nobody may come to -/
def OwnL (w : World) (base : Nat) (v : Value) (xs : List Int) : Prop := w.ownsRow base 3 1 v xs.length (xs.map (Value.int .i64))

def LRow (w : World) (base : Nat) (v : Value) (xs : List Int) : Prop :=
  (v = .slice none 0 0 ∧ xs = []) ∨ ∃ g cap cur, v = .slice (some ⟨g, 0, none⟩) xs.length cap ∧ base ≤ g ∧ w.heap[g]? = some (.cells cur 3 (0, 0)) ∧ xs.length ≤ cap ∧ cap ≤ maxLen ∧ (cur.size = cap ∨ cap = xs.length) ∧ cur.toList.take xs.length = xs.map (Value.int .i64)

section
variable {w w' : World} {base : Nat} {v : Value} {xs : List Int}

theorem LRow.nil (w : World) (base : Nat) : LRow w base (.slice none 0 0) [] := .inl ⟨rfl, rfl⟩

theorem LRow.of_own (h : OwnL w base v xs) : LRow w base v xs := by
  rcases h.2 with ⟨h1, h2⟩ | ⟨g, cap, cur, rfl, h1, h2, h3, h4, h5, h6⟩
  · exact .inl ⟨h1, List.eq_nil_of_length_eq_zero h2⟩
  · exact .inr ⟨g, cap, cur, rfl, h1, h2, h3, h4, .inl (by omega), by rw [Nat.mul_one] at h6; exact h6⟩

theorem LRow.keep (h : LRow w base v xs) {r : Option Nat} (g : w.grownBy w' r) (hr : ∀ j, r = some j → v.ownBlock ≠ some j) : LRow w' base v xs := by
  rcases h with h | ⟨b, cap, cur, rfl, hb, hg, rest⟩
  · exact .inl h
  · refine .inr ⟨b, cap, cur, rfl, hb, ?_, rest⟩
    rw [g.block b (blk_lt hg) (fun e => hr b e.symm rfl)]
    exact hg

theorem LRow.lt (h : LRow w base v xs) {j : Nat} (hj : v.ownBlock = some j) : base ≤ j ∧ j < w.heap.size := by
  rcases h with ⟨rfl, _⟩ | ⟨b, cap, cur, rfl, hb, hg, _⟩
  · simp [Value.ownBlock] at hj
  · simp [Value.ownBlock] at hj; subst hj; exact ⟨hb, blk_lt hg⟩

theorem LRow.shape (h : LRow w base v xs) : ∃ ao cap, v = .slice ao xs.length cap ∧ xs.length ≤ cap ∧ cap ≤ maxLen := by
  rcases h with ⟨rfl, rfl⟩ | ⟨b, cap, cur, rfl, hb, hg, h1, h2, _⟩
  · exact ⟨none, 0, rfl, by simp, by unfold maxLen; omega⟩
  · exact ⟨_, _, rfl, h1, h2⟩

theorem LRow.filled (h : LRow w base v xs) (h0 : 0 < xs.length) : ∃ g cap, v = .slice (some ⟨g, 0, none⟩) xs.length cap ∧ xs.length ≤ cap ∧ cap ≤ maxLen := by
  rcases h with ⟨rfl, rfl⟩ | ⟨b, cap, cur, rfl, hb, hg, h1, h2, _⟩
  · simp at h0
  · exact ⟨_, _, rfl, h1, h2⟩

theorem LRow.at {g n cap i : Nat} {x : Int} (h : LRow w base (.slice (some ⟨g, 0, none⟩) n cap) xs) (hx : xs[i]? = some x) : w.cell? ⟨g, i, none⟩ = some (.int .i64 x) := by
  have hi := (List.getElem?_eq_some_iff.1 hx).1
  rcases h with ⟨e, _⟩ | ⟨b, cap, cur, e, hb, hg, h1, h2, h3, h4⟩
  · cases e
  · cases e
    rw [cell_of hg]
    have : (cur.toList.take xs.length)[i]? = some (.int .i64 x) := by rw [h4]; simp [hx]
    rw [List.getElem?_take_of_lt hi] at this
    simpa using this

/-- Its first ones, with no room behind. -/
theorem LRow.full {g n cap m : Nat} (h : LRow w base (.slice (some ⟨g, 0, none⟩) n cap) xs) (hm : m ≤ xs.length) : LRow w base (.slice (some ⟨g, 0, none⟩) m m) (xs.take m) := by
  rcases h with ⟨e, _⟩ | ⟨b, cap, cur, e, hb, hg, h1, h2, h3, h4⟩
  · cases e
  · cases e
    have hl : (xs.take m).length = m := by rw [List.length_take]; omega
    refine .inr ⟨g, m, cur, by rw [hl], hb, hg, by rw [hl]; omega, by omega, .inr hl.symm, ?_⟩
    rw [hl, List.map_take, ← h4, List.take_take]
    congr 1
    omega

/-- Its first ones, with the room that was. -/
theorem OwnL.cut {g n cap m : Nat} (h : OwnL w base (.slice (some ⟨g, 0, none⟩) n cap) xs) (hm : m ≤ xs.length) : OwnL w base (.slice (some ⟨g, 0, none⟩) m cap) (xs.take m) := by
  unfold OwnL
  have hl : (xs.take m).length = m := by rw [List.length_take]; omega
  rw [hl]
  refine ⟨by simp; omega, ?_⟩
  rcases h.2 with ⟨e, _⟩ | ⟨b, c, cur, e, hb, hg, h1, h2, h3, h4⟩
  · cases e
  · cases e
    refine .inr ⟨g, cap, cur, rfl, hb, hg, by omega, h2, h3, ?_⟩
    rw [List.map_take, ← h4, List.take_take]
    congr 1
    omega
end

/-- What v' has is of v, or new. -/
def Nw (w : World) (v v' : Value) : Prop := ∀ j, v'.ownBlock = some j → v.ownBlock = some j ∨ w.heap.size ≤ j

theorem new_row (w : World) (B old : Nat) (xs news : List Value) (hB : B ≤ w.heap.size) (h63 : xs.length + news.length ≤ maxLen) :
    (w.drew.alloc (.cells (xs.toArray ++ news.toArray ++ Builtin.zeroCells (Value.int .i64 0).cells (grownCap w (xs.length + news.length) old 3 - (xs.length + news.length))) 3)).ownsRow B 3 1 (.slice (some ⟨w.heap.size, 0, none⟩) (xs.length + news.length) (grownCap w (xs.length + news.length) old 3)) (xs.length + news.length) (xs ++ news) ∧
    w.grownBy (w.drew.alloc (.cells (xs.toArray ++ news.toArray ++ Builtin.zeroCells (Value.int .i64 0).cells (grownCap w (xs.length + news.length) old 3 - (xs.length + news.length))) 3)) none := by
  have hge := grownCap_ge w (xs.length + news.length) old 3
  have hcm := grownCap_le_maxLen w (xs.length + news.length) old 3 h63
  refine ⟨⟨by simp, .inr ⟨w.heap.size, _, _, rfl, hB, heap_alloc_new w.drew _, hge, hcm, ?_, ?_⟩⟩, ⟨rfl, rfl, rfl, by simp, fun k hk _ => heap_alloc_old w.drew _ hk⟩⟩
  · have hz1 : (Value.int IntKind.i64 0).cells.size = 1 := rfl
    simp only [Array.size_append, List.size_toArray, size_zeroCells, hz1]
    omega
  · have e : (xs.length + news.length) * 1 = (xs ++ news).length := by simp
    simp only [Array.toList_append, List.append_assoc]
    rw [← List.append_assoc, e]
    exact List.take_left

/-- One number more behind a row. -/
theorem run_more {w w1 : World} (ty : TypeId) (y : Int) (hw : w = w1.alloc (.cells #[.int .i64 y] 3)) (B : Nat) (v : Value) (xs : List Int) (own : LRow w1 B v xs) (q : Nat) (hq : q = w1.heap.size) (hbd : xs.length ≤ 100000000) (hB : B ≤ w1.heap.size) :
    ∃ v' w', (Builtin.append_ #[38, 38] ty #[v, .slice (some ⟨q, 0, none⟩) 1 1]).run Try.prog w = .ok v' w' ∧ OwnL w' B v' (xs ++ [y]) ∧ w1.grownBy w' v.ownBlock ∧ Nw w1 v v' := by
  subst hw hq
  obtain ⟨i0, hi, hz0, hz1, hz2⟩ := info_parts Try.info3
  have hnews : ∀ j u, [Value.int .i64 y][j]? = some u → (w1.alloc (.cells #[.int .i64 y] 3)).cell? ((⟨w1.heap.size, 0, none⟩ : Addr).add j) = some u := cell_one_new w1 _ _
  have fin : ∀ {v' w'}, w'.ownsRow B 3 1 v' (xs.length + 1) (xs.map (Value.int .i64) ++ [.int .i64 y]) → OwnL w' B v' (xs ++ [y]) := fun h => by simpa [OwnL] using h
  have case1 : (w1.alloc (.cells #[.int .i64 y] 3)).ownsRow B 3 1 v xs.length (xs.map (Value.int .i64)) → ∃ v' w', (Builtin.append_ #[38, 38] ty #[v, .slice (some ⟨w1.heap.size, 0, none⟩) 1 1]).run Try.prog (w1.alloc (.cells #[.int .i64 y] 3)) = .ok v' w' ∧ OwnL w' B v' (xs ++ [y]) ∧ w1.grownBy w' v.ownBlock ∧ Nw w1 v v' := by
    intro own'
    obtain ⟨v', w', h1, h2, h3, _, h4⟩ := run_append_own_at (P := Try.prog) (w1.alloc (.cells #[.int .i64 y] 3)) B 38 ty 3 i0 (.int .i64 0) 1 8 Try.underlying38 hi hz0 hz1 hz2 rfl (by omega) v xs.length _ own' ⟨w1.heap.size, 0, none⟩ 1 1 [.int .i64 y] (by simp) hnews (by simp [Value.oneCell']) (by unfold maxLen; omega) (by omega) (by simp; omega)
    refine ⟨v', w', h1, fin h2, grown_two (grown_new w1 _ _) h3, fun j hj => ?_⟩
    rcases h4 with h4 | h4
    · exact .inl (by rw [← h4]; exact hj)
    · rw [h4] at hj
      have := Option.some.inj hj
      simp at this
      exact .inr (by omega)
  rcases own with ⟨rfl, rfl⟩ | ⟨g, cap, cur, rfl, hb, hg, h1, h2, h3, h4⟩
  · exact case1 (World.ownsRow_nil _ _ _ _)
  · have hg' : (w1.alloc (.cells #[.int .i64 y] 3)).heap[g]? = some (.cells cur 3 (0, 0)) := by rw [(grown_new w1 _ none).block g (blk_lt hg) (by simp)]; exact hg
    by_cases hc : cur.size = cap
    · exact case1 ⟨by simp, .inr ⟨g, cap, cur, rfl, hb, hg', h1, h2, by omega, by rw [Nat.mul_one]; exact h4⟩⟩
    · have hcap : cap = xs.length := by omega
      subst hcap
      have hold : ∀ j u, (xs.map (Value.int .i64))[j]? = some u → (w1.alloc (.cells #[.int .i64 y] 3)).cell? ((⟨g, 0, none⟩ : Addr).add j) = some u := by
        intro j u hj
        have hjl := (List.getElem?_eq_some_iff.1 hj).1
        simp at hjl
        rw [add_at, cell_of hg', Nat.zero_add]
        rw [← h4, List.getElem?_take_of_lt hjl] at hj
        simpa using hj
      have hr := run_append_grow (P := Try.prog) (w1.alloc (.cells #[.int .i64 y] 3)) 38 ty 3 i0 (.int .i64 0) Try.underlying38 hi hz0 ⟨g, 0, none⟩ xs.length xs.length (xs.map (Value.int .i64)) (by rw [hz1]; simp) hold ⟨w1.heap.size, 0, none⟩ 1 1 [.int .i64 y] (by rw [hz1]; rfl) hnews (by omega) (by omega) (by rw [hz2]; exact growslice_fits (by omega) (by omega))
      obtain ⟨n1, n2⟩ := new_row (w1.alloc (.cells #[.int .i64 y] 3)) B xs.length (xs.map (Value.int .i64)) [.int .i64 y] (by simp; omega) (by unfold maxLen; simp; omega)
      simp only [List.length_map, List.length_singleton] at n1 n2
      refine ⟨_, _, hr, fin n1, ?_, fun j hj => ?_⟩
      · have g1 := grown_new w1 (.cells #[.int .i64 y] 3) none
        have g2 := grown_two g1 n2
        exact ⟨g2.os, g2.tape, g2.output, g2.size, fun j hj _ => g2.block j hj (by simp)⟩
      · have : (w1.alloc (.cells #[.int .i64 y] 3)).heap.size = j := by simpa [Value.ownBlock] using hj
        simp at this
        exact .inr (by omega)

theorem append_new {w w1 : World} {ops : Array Oper} {rest : List Oper} {o : Oper} {a : Act} {Q : Exit → Act → World → Prop} (hgd : o.guard = none) (s x : Operand)
    (ho : o.op = .call { callee := .builtin .append, args := #[s, x], argTypes := #[38, 38] })
    (y : Int) (hw : w = w1.alloc (.cells #[.int .i64 y] 3)) (B : Nat) (v : Value) (xs : List Int) (hs : a.eval s = v) (own : LRow w1 B v xs)
    (q : Nat) (hx : a.eval x = .slice (some ⟨q, 0, none⟩) 1 1) (hq : q = w1.heap.size) (hbd : xs.length ≤ 100000000) (hB : B ≤ w1.heap.size)
    (h : ∀ v' w', Hid (OwnL w' B v' (xs ++ [y])) → Hid (w1.grownBy w' v.ownBlock) → Hid (Nw w1 v v') → wpList Try.prog ops Q rest (a.put o.dst v') w') : wpList Try.prog ops Q (o :: rest) a w := by
  obtain ⟨v', w', hr, h2, h3, h4⟩ := run_more o.type y hw B v xs own q hq hbd hB
  refine wpList_plain hgd fun K hK => ?_
  unfold Oper.wp execOp
  simp only [ho, resolve, invoke, builtin, Sem.run_bind, Sem.run_pure, Result.andThen_ok, List.map_toArray, List.map_cons, List.map_nil, hs, hx, hr]
  exact hK _ _ (h v' w' h2 h3 h4)

end Go.Proofs.Ytimpoagdidnpiaa
