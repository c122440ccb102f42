/-
  A clause more, between its steps.
-/
import Derived.Test.YtikdmgemhfmipaaGreatWAddp
namespace Go.Proofs.YtikdmgemhfmipaaGreat
open Go.RowKit Go.Maps
set_option linter.unusedVariables false

/-! ### The clause is there -/
/-- The clause is laid, and its number used; the map is one, and does not have it yet. -/
structure Mid (kw : WK) (w : World) (g : G) (cn : Nat) (lv : Value) (xs : List Int) (mb : Nat) (D : DataW (Option Addr)) : Prop where
  c : Con kw w (addG g cn lv xs mb)
  l : Lst kw w g
  m : w.ownsMap Tryz.prog 3 ptrElem mb g.nx D ∧ (∀ x : Int, D.atKey (.int .i64 x) (.held none) = .held (if live g x = true then some ⟨g.cb x.toNat, 0, none⟩ else none)) ∧ (∀ x : Int, Maps.has D (.int .i64 x) = live g x) ∧ Maps.size D = liveN g
  hc : w.heap[cn]? = some (.cells #[.int .i64 g.nx, lv, .int .i64 (-1), .int .i64 (-1), .int .i64 0, .bool false] 57 (0, 0))
  hf : ∀ i, i < g.nx → g.cb i ≠ cn
  hl : LitRow w lv xs
  lo : kw.B ≤ cn ∧ kw.B ≤ mb

theorem MapAt.parts {w : World} {g : G} {mb : Nat} {D : DataW (Option Addr)} (m : MapAt w g mb D) : w.ownsMap Tryz.prog 3 ptrElem mb g.nx D ∧ (∀ x : Int, D.atKey (.int .i64 x) (.held none) = .held (if live g x = true then some ⟨g.cb x.toNat, 0, none⟩ else none)) ∧ (∀ x : Int, Maps.has D (.int .i64 x) = live g x) ∧ Maps.size D = liveN g := ⟨m.own, m.val, m.has, m.size⟩

section
variable {k : K} {kw : WK} {w w1 w2 : World} {g : G} {cn mb : Nat} {lv : Value} {xs : List Int} {D : DataW (Option Addr)}

theorem map_ne {w : World} {a b : Nat} {es : Array MapEntry} {q : Nat} {c : Array Value} {T : TypeId} {f : Nat × Nat} (h1 : w.heap[a]? = some (.map es q)) (h2 : w.heap[b]? = some (.cells c T f)) : b ≠ a := by
  rintro rfl; rw [h1] at h2; cases h2

theorem Con.map (h : Con kw w g) {es : Array MapEntry} {q : Nat} (hm : w.heap[mb]? = some (.map es q)) (gr : w.grownBy w1 (some mb)) : Con kw w1 g := by
  refine h.other gr (fun j T e t => ?_)
  cases e
  obtain ⟨c, f, t⟩ := t
  rw [hm] at t; cases t

/-- It is in the map. -/
theorem Mid.put (h : Mid kw w g cn lv xs mb D) (own : w1.ownsMap Tryz.prog 3 ptrElem mb (g.nx + 1) (D.put (.int .i64 g.nx) (.held (some ⟨cn, 0, none⟩)))) (gr : w.grownBy w1 (some mb)) : St kw w1 (addG g cn lv xs mb) := by
  obtain ⟨es, q, hm, _⟩ := id h.m.1
  exact ⟨h.c.map hm gr, h.l.add gr hm h.hc h.hf h.hl h.lo (MapAt.add (w := w) (g := g) ⟨h.m.1, h.m.2.1, h.m.2.2.1, h.m.2.2.2⟩ own)⟩

theorem Mid.fw (h : Mid kw w g cn lv xs mb D) (gr : w.grownBy w1 (some mb)) : FW kw.B w w1 := by
  obtain ⟨es, q, hm, _⟩ := id h.m.1
  refine FW.grown gr (fun j T e t => ?_) (fun j e => by cases e; exact h.lo.2)
  cases e
  obtain ⟨c, f, t⟩ := t
  rw [hm] at t; cases t

theorem Mid.up (h : Mid kw w g cn lv xs mb D) (hn : g.nx ≤ 1000000) : ∃ w1, (Instr.mapUpdate 49 (.map (some mb)) (.int .i64 g.nx) (.pointer (some ⟨cn, 0, none⟩))).run Tryz.prog w = .ok () w1 ∧ Hid (St kw w1 (addG g cn lv xs mb)) ∧ Hid (FW kw.B w w1) := by
  obtain ⟨w1, h1, h2, h3⟩ := h.m.1.update law3 Tryz.underlying49 (by unfold maxLen; omega) (keyOf_int_mk Tryz.underlying3 (wf_of (x := (g.nx : Int)) (by omega) (by omega))) (val := .pointer (some ⟨cn, 0, none⟩)) (d := .held (some ⟨cn, 0, none⟩)) (ps := []) rfl
  exact ⟨w1, h1, h.put h2 h3, h.fw h3⟩

theorem Mid.drew (h : Mid kw w g cn lv xs mb D) : Mid kw w.drew g cn lv xs mb D := ⟨h.c.same (fun _ _ _ _ => rfl), h.l.same (fun _ _ _ _ => rfl) (fun _ _ _ _ => rfl) (fun _ _ _ _ _ _ _ => rfl), h.m, h.hc, h.hf, h.hl.same (fun _ _ _ _ => rfl), h.lo⟩

theorem Mid.c0 (h : Mid kw w g cn lv xs mb D) : w.cell? ⟨kw.OB, 0, none⟩ = some (.map (some mb)) := by rw [cell_of h.c.ob]; rfl
theorem Mid.d1 (h : Mid kw w g cn lv xs mb D) : w.cell? ⟨cn, 0, none⟩ = some (.int .i64 g.nx) := by rw [cell_of h.hc]; rfl

/-- The clause in its own block. -/
def ccell (g : G) (lv : Value) : Array Value := #[.int .i64 g.nx, lv, .int .i64 (-1), .int .i64 (-1), .int .i64 0, .bool false]

/-- The number is used: the map was there. -/
theorem Mid.old (s : St kw w g) (hc : w.heap[cn]? = some (.cells (ccell g lv) 57 (0, 0))) (hf : ∀ i, i < g.nx → g.cb i ≠ cn) (hl : LitRow w lv xs) (lo : kw.B ≤ cn) (hm : g.mp = some mb) :
    ∃ D, Mid kw (w.setCell ⟨kw.OB, 1, none⟩ (.int .i64 ((g.nx : Int) + 1))) g cn lv xs mb D := by
  have gr := grown_set w ⟨kw.OB, 1, none⟩ (.int .i64 ((g.nx : Int) + 1))
  have ht : Typ w kw.OB 52 := ⟨_, _, s.c.ob⟩
  have L := s.l.other gr ht (by decide) (by decide) (by decide)
  have key : ∀ j T, Typ w j T → T ≠ 52 → (w.setCell ⟨kw.OB, 1, none⟩ (.int .i64 ((g.nx : Int) + 1))).heap[j]? = w.heap[j]? := fun j T t hne => gr.block j t.lt (fun e => hne (by cases e; exact t.one ht))
  have hmp := L.mp
  rcases hmp with ⟨e, _⟩ | ⟨mb', D, e, m⟩
  · rw [hm] at e; cases e
  · rw [hm] at e; cases e
    refine ⟨D, ⟨?_, ?_, ?_, s.c.lo⟩, L, m.parts, ?_, hf, hl.same (fun j _ _ t => key j 3 t (by decide)), lo, s.l.lo.m mb hm⟩
    · rw [set_same s.c.ob]
      simp [addG, hm]
    · obtain ⟨c, h1, h2⟩ := s.c.wb
      exact ⟨c, by rw [key _ 50 ⟨_, _, h1⟩ (by decide)]; exact h1, h2⟩
    · obtain ⟨c, h1, h2⟩ := s.c.fb
      exact ⟨c, by rw [key _ 107 ⟨_, _, h1⟩ (by decide)]; exact h1, h2⟩
    · rw [key _ 57 ⟨_, _, hc⟩ (by decide)]; exact hc

/-- .. and the map is new. -/
theorem Mid.new (s : St kw w g) (hc : w.heap[cn]? = some (.cells (ccell g lv) 57 (0, 0))) (hf : ∀ i, i < g.nx → g.cb i ≠ cn) (hl : LitRow w lv xs) (lo : kw.B ≤ cn) (hm : g.mp = none) (hs : (w.setCell ⟨kw.OB, 1, none⟩ (.int .i64 ((g.nx : Int) + 1))).heap.size = mb) :
    Mid kw (((w.setCell ⟨kw.OB, 1, none⟩ (.int .i64 ((g.nx : Int) + 1))).alloc (.map #[] 0)).setCell ⟨kw.OB, 0, none⟩ (.map (some mb))) g cn lv xs mb (.map []) := by
  have gr1 := grown_set w ⟨kw.OB, 1, none⟩ (.int .i64 ((g.nx : Int) + 1))
  have gr2 := grown_new (w.setCell ⟨kw.OB, 1, none⟩ (.int .i64 ((g.nx : Int) + 1))) (.map #[] 0) (some kw.OB)
  have gr3 := grown_set ((w.setCell ⟨kw.OB, 1, none⟩ (.int .i64 ((g.nx : Int) + 1))).alloc (.map #[] 0)) ⟨kw.OB, 0, none⟩ (.map (some mb))
  have gr := grown_two (grown_two gr1 gr2) gr3
  have ht : Typ w kw.OB 52 := ⟨_, _, s.c.ob⟩
  have L := s.l.other gr ht (by decide) (by decide) (by decide)
  have key := fun j T (t : Typ w j T) (hne : T ≠ 52) => gr.block j t.lt (fun e => hne (by cases e; exact t.one ht))
  have hz : g.nx = 0 := by
    rcases s.l.mp with ⟨_, e⟩ | ⟨mb', D, e, m⟩
    · exact e
    · rw [hm] at e; cases e
  have hob : kw.OB < w.heap.size := blk_lt s.c.ob
  have hsz := gr1.size
  have hlv : ∀ x, live g x = false := fun x => by simp [live, hz]; omega
  refine ⟨⟨?_, ?_, ?_, s.c.lo⟩, L, ⟨?_, fun x => ?_, fun x => ?_, ?_⟩, ?_, hf, hl.same (fun j _ _ t => key j 3 t (by decide)), lo, ?_⟩
  · have e1 : (w.setCell ⟨kw.OB, 1, none⟩ (.int .i64 ((g.nx : Int) + 1))).heap[kw.OB]? = some _ := set_same s.c.ob _
    have e2 := ((grown_new (w.setCell ⟨kw.OB, 1, none⟩ (.int .i64 ((g.nx : Int) + 1))) (.map #[] 0) none).block kw.OB (by omega) (by simp)).trans e1
    rw [set_same e2]
    simp [addG]
  · obtain ⟨c, h1, h2⟩ := s.c.wb
    exact ⟨c, by rw [key _ 50 ⟨_, _, h1⟩ (by decide)]; exact h1, h2⟩
  · obtain ⟨c, h1, h2⟩ := s.c.fb
    exact ⟨c, by rw [key _ 107 ⟨_, _, h1⟩ (by decide)]; exact h1, h2⟩
  · have o := World.ownsMap_made (w.setCell ⟨kw.OB, 1, none⟩ (.int .i64 ((g.nx : Int) + 1))) Tryz.prog 3 ptrElem
    rw [hs] at o
    exact (o.mono (Nat.zero_le _)).setCell (a := ⟨kw.OB, 0, none⟩) (by show mb ≠ kw.OB; omega) _
  · rw [hlv x]; rfl
  · rw [hlv x]; rfl
  · simp [liveN, hz]; rfl
  · rw [key _ 57 ⟨_, _, hc⟩ (by decide)]; exact hc
  · have := s.c.lo.1; omega
end

end Go.Proofs.YtikdmgemhfmipaaGreat
