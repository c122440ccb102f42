/-
  Terms reckoned each once: what lies in memory.
-/
import Derived.Test.YtbekgejbgmdbdaaRp
import Derived.Test.YtbekgejbgmdbdaaMn
import Derived.Test.YtbekgejbgmdbdaaOwalk
import Derived.Maps.AppendAt
import Derived.Deep.LoopGhost
namespace Go.Proofs.Ytbekgejbgmdbdaa
open Go.RowKit Go.Maps
set_option linter.unusedVariables false
set_option maxRecDepth 20000

def stC (S : List Nat) : List Value := S.map fun (n : Nat) => Value.int .i64 (n : Int)
theorem stC_snoc (S : List Nat) (x : Nat) : stC (S ++ [x]) = stC S ++ [.int .i64 (x : Int)] := by simp [stC]
theorem stC_at (S : List Nat) (x : Nat) (T : List Nat) : (stC (S ++ [x] ++ T))[S.length]? = some (.int .i64 (x : Int)) := by simp [stC]

/-- Between two rounds: what is held, what is still to be done. -/
structure SK {α : Type} (r : Rdr α) (w0 : World) (mb : Nat) (val : Nat → α) (H S : List Nat) (v : Value) (wr : World) : Prop where
  be : Below w0.heap.size w0 wr
  mp : HeldIs r wr mb H val
  mw : w0.heap.size ≤ mb
  ow : wr.ownsRow w0.heap.size 3 1 v S.length (stC S)

section
variable {α : Type} {r : Rdr α} {w0 wr w2 : World} {mb : Nat} {val : Nat → α} {H S : List Nat} {v : Value} {x : Nat}

theorem own_type {w : World} {base : Nat} {E : TypeId} {sz n : Nat} {v : Value} {xs : List Value} (h : w.ownsRow base E sz v n xs) {j : Nat} (hj : v.ownBlock = some j) : base ≤ j ∧ ∃ cur, w.heap[j]? = some (.cells cur E (0, 0)) := by
  rcases h.2 with ⟨rfl, _⟩ | ⟨b, cap, cur, rfl, hb, hg, _⟩
  · simp [Value.ownBlock] at hj
  · simp [Value.ownBlock] at hj; subst hj; exact ⟨hb, cur, hg⟩

theorem SK.below (h : SK r w0 mb val H S v wr) (b : Below wr.heap.size wr w2) : SK r w0 mb val H S v w2 :=
  ⟨Below.next h.be b, h.mp.below b, h.mw, own_keep h.ow (grown_below b) fun j hj => by cases hj⟩

/-- A block of another type turns. -/
theorem SK.other {row : Option Nat} (h : SK r w0 mb val H S v wr) (b : wr.grownBy w2 row) {j : Nat} (hr : row = some j) (hw : w0.heap.size ≤ j) {cs : Array Value} {t : TypeId} (hj : wr.heap[j]? = some (.cells cs t (0, 0))) (ht : t ≠ 3) : SK r w0 mb val H S v w2 := by
  subst hr
  refine ⟨?_, h.mp.grown b fun e => ?_, h.mw, own_keep h.ow b fun i hi e => ?_⟩
  · exact (Below.refl _ _ |>.trans h.be).grown b h.be.size fun i hi => by cases hi; exact hw
  · cases e; exact h.mp.ne hj rfl
  · cases hi
    obtain ⟨_, cur, hc⟩ := own_type h.ow e
    rw [hj] at hc
    simp at hc
    exact ht hc.2

theorem SK.shape (h : SK r w0 mb val H (S ++ [x]) v wr) : ∃ g c, v = .slice (some ⟨g, 0, none⟩) (S.length + 1) c ∧ wr.cell? ⟨g, S.length, none⟩ = some (.int .i64 x) ∧ S.length + 1 ≤ c ∧ c ≤ maxLen := by
  have e : (S ++ [x]).length = S.length + 1 := by simp
  have h2 := h.ow
  rw [e] at h2
  rcases h2.2 with ⟨rfl, e2⟩ | ⟨b, cap, cur, rfl, hb, hg, hl, hm, hs, ht⟩
  · omega
  · refine ⟨b, cap, rfl, ?_, hl, hm⟩
    rw [h2.cellAt S.length (by omega), stC_snoc]
    simp [stC]

theorem own_cut {w : World} {base g c : Nat} {S : List Nat} {x : Nat} (h : w.ownsRow base 3 1 (.slice (some ⟨g, 0, none⟩) (S.length + 1) c) (S.length + 1) (stC (S ++ [x]))) : w.ownsRow base 3 1 (.slice (some ⟨g, 0, none⟩) S.length c) S.length (stC S) := by
  refine ⟨by simp [stC], ?_⟩
  rcases h.2 with ⟨h', _⟩ | ⟨b, cap, cur, h', hb, hg, hl, hm, hs, ht⟩
  · simp at h'
  · simp only [Value.slice.injEq, Option.some.injEq, Addr.mk.injEq, and_true, true_and] at h'
    obtain ⟨rfl, rfl⟩ := h'
    refine .inr ⟨g, c, cur, rfl, hb, hg, by omega, hm, hs, ?_⟩
    have e : (stC (S ++ [x])).take S.length = stC S := by rw [stC_snoc]; simp [stC]
    have hl2 : (stC (S ++ [x])).length = S.length + 1 := by simp [stC]
    rw [← e, ← ht, List.take_take]
    congr 1
    omega

theorem SK.push (h : SK r w0 mb val H S v wr) {w3 : World} {v3 : Value} (g : wr.grownBy w3 v.ownBlock) (ow : w3.ownsRow w0.heap.size 3 1 v3 (S.length + 1) (stC S ++ [.int .i64 (x : Int)])) : SK r w0 mb val H (S ++ [x]) v3 w3 := by
  refine ⟨h.be.grown g h.be.size fun j hj => (own_type h.ow hj).1, h.mp.grown g fun e => ?_, h.mw, ?_⟩
  · obtain ⟨_, cur, hc⟩ := own_type h.ow e
    exact h.mp.ne hc rfl
  · rw [stC_snoc]; simpa using ow

theorem SK.pop {g c : Nat} (h : SK r w0 mb val H (S ++ [x]) (.slice (some ⟨g, 0, none⟩) (S.length + 1) c) wr) : SK r w0 mb val H S (.slice (some ⟨g, 0, none⟩) S.length c) wr := by
  refine ⟨h.be, h.mp, h.mw, own_cut (x := x) ?_⟩
  have := h.ow
  simpa using this

theorem SK.put (h : SK r w0 mb val H S v wr) (hx : inF H x = false) (hb : x ≤ 1000000) (hl : H.length ≤ 1000000) : ∃ w2, (Instr.mapUpdate r.T (.map (some mb)) (.int .i64 x) (r.mkV (val x))).run Try.prog wr = .ok () w2 ∧ Hid (SK r w0 mb val (H ++ [x]) S v w2) := by
  obtain ⟨w2, r1, r2, r3⟩ := h.mp.put (j := x) (by simpa [inF] using hx) hb hl
  refine ⟨w2, r1, hid ⟨h.be.grown r3 h.be.size (fun j hj => by cases hj; exact h.mw), r2, h.mw, own_keep h.ow r3 fun j hj e => ?_⟩⟩
  cases hj
  obtain ⟨_, cur, hc⟩ := own_type h.ow e
  exact h.mp.ne hc rfl

theorem SK.nil (h : SK r w0 mb val H [] v wr) : ∃ ao c, v = .slice ao 0 c := by
  rcases h.ow.2 with ⟨rfl, e2⟩ | ⟨b, cap, cur, rfl, _⟩
  · exact ⟨none, 0, rfl⟩
  · exact ⟨_, _, rfl⟩
end

/-! ### an append of one number -/
theorem append_one {w : World} {ops : Array Oper} {rest : List Oper} {o : Oper} {a : Act} {Q : Exit → Act → World → Prop} (hgd : o.guard = none) (s y : Operand)
    (ho : o.op = .call { callee := .builtin .append, args := #[s, y], argTypes := #[37, 37] }) (B : Nat) (v : Value) (S : List Nat) (x : Int) (hs : a.eval s = v) (own : w.ownsRow B 3 1 v S.length (stC S)) (q : Nat) (hq : q = w.heap.size)
    (hx : a.eval y = .slice (some ⟨q, 0, none⟩) 1 1) (hbd : S.length ≤ 1000000) (hB : B ≤ w.heap.size)
    (h : ∀ v' w', Hid (w'.ownsRow B 3 1 v' (S.length + 1) (stC S ++ [.int .i64 x])) → Hid ((w.alloc (.cells #[.int .i64 x] 3)).grownBy w' v.ownBlock) → Hid (v'.ownBlock = v.ownBlock ∨ v'.ownBlock = some (w.alloc (.cells #[.int .i64 x] 3)).heap.size) → wpList Try.prog ops Q rest (a.put o.dst v') w') : wpList Try.prog ops Q (o :: rest) a (w.alloc (.cells #[.int .i64 x] 3)) := by
  subst hq
  obtain ⟨i0, hi, hz0, hz1, hz2⟩ := info_parts Ls.Try.info3
  refine wpList_append_own_at (P := Try.prog) (w := w.alloc (.cells #[.int .i64 x] 3)) hgd s y 37 ho B 3 i0 (.int .i64 0) 1 8 Try.underlying37 hi hz0 hz1 hz2 rfl (by decide) v S.length _ hs (own.alloc _) ⟨w.heap.size, 0, none⟩ 1 1 [.int .i64 x] hx rfl (cell_one_new w _ _) (by intro u hu; simp at hu; subst hu; rfl) (by unfold maxLen; omega) (by omega) (by simp; omega) ?_
  intro v' w' h1 h2 _ h4
  exact h v' w' (hid h1) (hid h2) (hid h4)

end Go.Proofs.Ytbekgejbgmdbdaa
