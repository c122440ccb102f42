/-
  Clauses that go: the numbers and a clause of a solver are others; Remove, of a solver; the facts of those that are there.
  there, reduce: which clauses go.
  reduce, where clauses go.
-/
import Derived.Test.YtimfjoinjfecjaaGreatP32
import Derived.Test.YtimfjoinjfecjaaGreatP42
import Derived.Test.YtimfjoinjfecjaaGreatP43

namespace Go.Proofs.YtimfjoinjfecjaaGreat
open Go.RowKit Go.Maps
set_option linter.unusedVariables false

section
variable {c : SC} {w0 w w' : World} {g g' : G} {s s' : SS} {m m' : MV}

def SS.lm (s : SS) (x : Nat) : SS := { s with lim := x }
theorem Sm.xlm (h : Sm c w0 g s m w) (x : Nat) : Nx c w0 w m g (s.lm x) (w.setCell ⟨c.SB, 8, none⟩ (.int .i64 x)) := by
  obtain ⟨a, b⟩ := h.fld (i := 8) (v := .int .i64 x) (s' := s.lm x) rfl rfl rfl rfl rfl rfl rfl rfl rfl rfl rfl
  exact ⟨_, a, b⟩

/-- The numbers are others. -/
theorem Sm.setn {w1 : World} {v' : Value} {xs : List Int} (h : Sm c w0 g s m w) (own : OwnL w1 w0.heap.size v' xs) (gr : w.grownBy w1 m.nv.ownBlock) (nw : Nw w m.nv v') :
    w1.heap[c.SB]? = some (.cells (sbc c s m) 61 (0, 0)) ∧ Sm c w0 g (s.N xs) { m with nv := v', ow := owT m.ow 3 w.heap.size (fun j => decide (v'.ownBlock = some j)) } (w1.setCell ⟨c.SB, 6, none⟩ v') ∧ Kp w0 w m.ow (w1.setCell ⟨c.SB, 6, none⟩ v') (owT m.ow 3 w.heap.size (fun j => decide (v'.ownBlock = some j))) := by
  obtain ⟨ch, hsb1, hsb2, R⟩ := h.two (t := 3) (i := 6) (v' := v') (by decide) gr h.nu.2
  have ho : ∀ j, v'.ownBlock = some j → j ≠ c.SB := fun j e q => by
    subst q
    have h1 := own_typ own e
    have := h1.one ⟨_, _, hsb1⟩
    cases this
  have own2 : OwnL (w1.setCell ⟨c.SB, 6, none⟩ v') w0.heap.size v' xs := own_set_other (x := v') (a := ⟨c.SB, 6, none⟩) own ho
  refine ⟨hsb1, ⟨R.W (by decide) (by decide), R.o (by decide) (by decide), hsb2, R.cl (by decide) (by decide), R.pr (by decide) (by decide), R.fa (by decide) (by decide), ⟨own2, fun j e => owT_mine (Q := fun j => decide (v'.ownBlock = some j)) ((nw j e).elim (fun q => Or.inl (h.nu.2 j q)) Or.inr) (decide_eq_true e)⟩, R.tr (by decide) (by decide), R.b0, h.hB, h.hn, R.lo, R.ft (by decide), R.od (by decide), R.tsb (by decide), R.ttb (by decide), tags_two h (by decide) R hsb2 (T := 3) (by simp [Wt]) (fun j e => own_typ own2 e), R.u6 (by decide), R.u7 (by decide)⟩, kpT R.gv ch.size R.zz⟩

theorem getD_set {α : Type} {d : α} {l : List α} {i j : Nat} {x : α} : (l.set i x).getD j d = if i = j ∧ j < l.length then x else l.getD j d := by
  simp only [List.getD_eq_getElem?_getD, List.getElem?_set]
  by_cases e : i = j
  · subst e
    by_cases h : i < l.length
    · simp [h]
    · simp [h]
  · simp [e]

/-- A clause is given up. -/
theorem Sm.putc (h : Sm c w0 g s m w) {b cap : Nat} (ev : m.cv = .slice (some ⟨b, 0, none⟩) s.cls.length cap) (i : Nat) : Nx c w0 w m g (s.C (s.cls.set i [])) (w.setCell ⟨b, i, none⟩ (.slice none 0 0)) := by
  obtain ⟨vs, q1, q2, q3, q4⟩ := h.cl
  have hb4 : m.ow b = 4 := q2 b (by rw [ev]; rfl)
  have ch : Cg m.ow 4 4 w (w.setCell ⟨b, i, none⟩ (.slice none 0 0)) := Cg.set (Cg.below (Below.refl _ _)) (.inl hb4) _
  have R := h.rest ch (h.old ch (by decide) (by decide)) (by decide) (by decide) (fun j => decide (m.cv.ownBlock = some j))
  have own2 : (w.setCell ⟨b, i, none⟩ (.slice none 0 0)).ownsRow w0.heap.size 42 1 m.cv (s.cls.set i []).length (vs.set i (.slice none 0 0)) := by
    rw [List.length_set]
    refine ⟨by rw [List.length_set]; exact q1.1, ?_⟩
    rcases q1.2 with ⟨q, _⟩ | ⟨b', cp, cur, q, hb, hg, h1, h2, h3, h4⟩
    · rw [ev] at q; cases q
    · rw [ev] at q; cases q
      refine .inr ⟨b, cap, cur.setIfInBounds i (.slice none 0 0), ev, hb, set_same hg _, h1, h2, by simpa using h3, ?_⟩
      rw [← h4]
      simp [List.take_set]
  have gv := R.gv _ _ q3
  have gv2 : GVt w0 (w.setCell ⟨b, i, none⟩ (.slice none 0 0)) (owT m.ow 4 w.heap.size (fun j => decide (m.cv.ownBlock = some j))) (vs.set i (.slice none 0 0)) (s.cls.set i []) := by
    refine ⟨by rw [List.length_set, List.length_set]; exact gv.1, fun j hj => ?_⟩
    rw [List.length_set] at hj
    obtain ⟨a, n, cc, e1, e2, e3⟩ := gv.2 j hj
    by_cases e : i = j
    · subst e
      refine ⟨none, 0, 0, List.getElem?_set_self hj, ?_, fun h0 => by omega⟩
      rw [getD_set, if_pos ⟨rfl, by rw [← gv.1]; exact hj⟩]
      exact ⟨rfl, Nat.le_refl _, by unfold maxLen; omega, fun _ => rfl, fun x hx => by simp at hx, fun h0 => by omega⟩
    · refine ⟨a, n, cc, by rw [List.getElem?_set_ne e]; exact e1, ?_, e3⟩
      rw [getD_set, if_neg (fun q => e q.1)]
      exact e2
  refine ⟨{ m with ow := owT m.ow 4 w.heap.size (fun j => decide (m.cv.ownBlock = some j)) }, ⟨R.W (by decide) (by decide), R.o (by decide) (by decide), R.sb (by decide) (by decide), ⟨_, own2, fun j e => owT_mine (Q := fun j => decide (m.cv.ownBlock = some j)) (.inl (q2 j e)) (decide_eq_true e), gv2, fun e => by cases e⟩, R.pr (by decide) (by decide), R.fa (by decide) (by decide), R.nu (by decide) (by decide), R.tr (by decide) (by decide), R.b0, h.hB, h.hn, R.lo, R.ft (by decide), R.od (by decide), R.tsb (by decide), R.ttb (by decide), fun j hj h1 => ?_, R.u6 (by decide), R.u7 (by decide)⟩, kpT R.gv ch.size R.zz⟩
  by_cases e : owT m.ow 4 w.heap.size (fun j => decide (m.cv.ownBlock = some j)) j = 4
  · rcases owT_cases m.ow 4 w.heap.size (fun j => decide (m.cv.ownBlock = some j)) j with q | ⟨_, q⟩ | ⟨q1, q2, q3⟩
    · exact absurd q h1
    · exact ⟨42, own_typ own2 (by simpa using q), by simp [Wt]⟩
    · rw [q1] at e; exact absurd e q3
  · exact R.ty j hj h1 e e

/-- Remove, of a solver. -/
theorem sremove (h : Sm c w0 g s m w) {i : Nat} (hi : i < g.nx) (hg : g.gn i = false) (hb : g.nx ≤ 1000000) (hr : g.rm ≤ 1000000) (hu : ∀ e ∈ s.L, 1 ≤ e.g → e.r ≠ i) :
    Calls Tryz.prog 59 #[.pointer (some ⟨c.kw.OB, 0, none⟩), .int .i64 i] w fun e w' => e = .returned (.bool true) ∧ ∃ g' m', Hid (Sm c w0 g' s m' w') ∧ Hid (Kp w0 w m.ow w' m'.ow) ∧ Hid (RemD c.kw.n g g' i ∧ g'.rm ≤ g.rm + 1) := by
  refine (remove_is h.W hi hg hb hr hu).mono fun e w' q => ?_
  obtain ⟨rfl, g', W, R, F⟩ := q
  have z := h.wa W.out (FT.fw F.out) (fun i2 hi2 hg2 j e h0 hs => h.t.ft j (.inr (.inr (.inl ⟨i2, by rw [← R.out.1.nx]; exact hi2, by
      rw [R.out.1.gn] at hg2
      by_cases q : i2 = i
      · subst q; exact hg
      · rw [up_ne _ _ q] at hg2; exact hg2, by rw [← R.out.1.lv]; exact e, by rw [← R.out.1.lt]; exact h0⟩)))) (fun h0 j e hs => h.t.ft j (.inr (.inr (.inr ⟨h0, by rw [← R.out.1.hv]; exact e⟩))))
  exact ⟨rfl, g', _, hid z.1, hid z.2, R⟩

/-! ### Those that stay, those that go -/
def selF (b : Bool) (B : Nat → Bool) : Nat → List Int → List Int
  | _, [] => []
  | i, x :: xs => if B i = b then x :: selF b B (i + 1) xs else selF b B (i + 1) xs

theorem sel_app (b : Bool) (B : Nat → Bool) : ∀ (xs ys : List Int) (i : Nat), selF b B i (xs ++ ys) = selF b B i xs ++ selF b B (i + xs.length) ys := by
  intro xs
  induction xs with
  | nil => intro ys i; simp [selF]
  | cons x xs ih =>
    intro ys i
    simp only [List.cons_append, selF, List.length_cons]
    rw [ih, show i + 1 + xs.length = i + (xs.length + 1) by omega]
    split <;> simp
theorem sel_yes {b : Bool} {B : Nat → Bool} {xs : List Int} {q : Nat} {x : Int} (h : xs[q]? = some x) (hb : B q = b) : selF b B 0 (xs.take (q + 1)) = selF b B 0 (xs.take q) ++ [x] := by
  have hq := (List.getElem?_eq_some_iff.1 h).1
  rw [List.take_add_one, h, sel_app, List.length_take, Nat.min_eq_left (by omega)]
  simp [selF, hb]
theorem sel_no {b : Bool} {B : Nat → Bool} {xs : List Int} {q : Nat} {x : Int} (h : xs[q]? = some x) (hb : ¬ B q = b) : selF b B 0 (xs.take (q + 1)) = selF b B 0 (xs.take q) := by
  have hq := (List.getElem?_eq_some_iff.1 h).1
  rw [List.take_add_one, h, sel_app, List.length_take, Nat.min_eq_left (by omega)]
  simp [selF, hb]
theorem sel_sub (b : Bool) (B : Nat → Bool) : ∀ (xs : List Int) (i : Nat), (selF b B i xs).Sublist xs := by
  intro xs
  induction xs with
  | nil => intro i; exact List.Sublist.refl _
  | cons x xs ih =>
    intro i
    simp only [selF]
    split
    · exact (ih (i + 1)).cons_cons x
    · exact (ih (i + 1)).cons x
theorem sel_len (B : Nat → Bool) : ∀ (xs : List Int) (i : Nat), (selF true B i xs).length + (selF false B i xs).length = xs.length := by
  intro xs
  induction xs with
  | nil => intro i; rfl
  | cons x xs ih =>
    intro i
    have := ih (i + 1)
    simp only [selF, List.length_cons]
    cases B i <;> simp <;> omega
theorem sel_apart (B : Nat → Bool) : ∀ (xs : List Int) (i : Nat), xs.Nodup → ∀ x ∈ selF true B i xs, x ∉ selF false B i xs := by
  intro xs
  induction xs with
  | nil => intro i _ x hx; cases hx
  | cons y xs ih =>
    intro i hn x hx
    rw [List.nodup_cons] at hn
    have hs1 := sel_sub true B xs (i + 1)
    have hs2 := sel_sub false B xs (i + 1)
    simp only [selF] at hx ⊢
    cases hB : B i
    · rw [hB] at hx
      simp at hx
      simp
      exact ⟨fun e => hn.1 (by rw [← e]; exact hs1.subset hx), ih (i + 1) hn.2 x hx⟩
    · rw [hB] at hx
      simp at hx
      simp
      rcases hx with rfl | hx
      · exact fun q => hn.1 (hs2.subset q)
      · exact ih (i + 1) hn.2 x hx
end
end Go.Proofs.YtimfjoinjfecjaaGreat

namespace Go.Proofs.YtimfjoinjfecjaaGreat
open Go.RowKit Go.Maps
set_option linter.unusedVariables false

def factAt (fst : Nat) (fs : List Fa) (x : Int) : Fa := fs.getD (x - fst).toNat ⟨0, 0, 0⟩
def thereF (fst : Nat) (fs : List Fa) (ns : List Int) : List Fa := ns.map (factAt fst fs)
def ddOf (f : Fa) : Kn.Dd := ⟨f.s, f.g, f.a⟩
def dsOf (L : List Fa) (i : Nat) : Kn.Dd := ddOf (L.getD i ⟨0, 0, 0⟩)
/-- Which of those that are there are kept. -/
def keptF (fst : Nat) (s : SS) : Nat → Bool := Kn.keepF s.ns.length (dsOf (thereF fst s.fs s.ns))
def stayF (fst : Nat) (s : SS) : List Int := selF true (keptF fst s) 0 s.ns
def gonsF (fst : Nat) (s : SS) : List Int := selF false (keptF fst s) 0 s.ns

theorem alloc_below0 (w : World) (o : Obj) : Below w.heap.size w (w.alloc o) := by go_grown
theorem facc_cons (a : Fa) (L : List Fa) : facc (a :: L) = .int .i64 a.s :: .int .i64 a.g :: .int .i64 a.a :: facc L := rfl
theorem facc_at : ∀ (L : List Fa) (j : Nat) (f : Fa), L[j]? = some f → (facc L)[j * 3]? = some (.int .i64 f.s) ∧ (facc L)[j * 3 + 1]? = some (.int .i64 f.g) ∧ (facc L)[j * 3 + 2]? = some (.int .i64 f.a) := by
  intro L
  induction L with
  | nil => intro j f h; simp at h
  | cons a L ih =>
    intro j f h
    rw [facc_cons]
    cases j with
    | zero => simp at h; subst h; exact ⟨rfl, rfl, rfl⟩
    | succ j =>
      have := ih j f (by simpa using h)
      rw [show (j + 1) * 3 = j * 3 + 1 + 1 + 1 by omega, show j * 3 + 1 + 1 + 1 + 1 = (j * 3 + 1) + 1 + 1 + 1 by omega, show j * 3 + 1 + 1 + 1 + 2 = (j * 3 + 2) + 1 + 1 + 1 by omega]
      simp only [List.getElem?_cons_succ]
      exact this

theorem there_next {fst : Nat} {fs : List Fa} {ns : List Int} {q : Nat} {x : Int} (h : ns[q]? = some x) : thereF fst fs (ns.take (q + 1)) = thereF fst fs (ns.take q) ++ [factAt fst fs x] := by
  unfold thereF
  rw [List.take_add_one, h]; simp
theorem there_len (fst : Nat) (fs : List Fa) (ns : List Int) : (thereF fst fs ns).length = ns.length := by unfold thereF; simp

theorem own_deeds {w : World} {B : Nat} {v : Value} {L : List Fa} (own : w.ownsRow B 105 3 v L.length (facc L)) : ∃ ao cp, v = .slice ao L.length cp ∧ Kn.Deeds w ao L.length (dsOf L) := by
  rcases own.2 with ⟨e, e2⟩ | ⟨b, cap, cur, e, hB, hg, h1, h2, h3, h4⟩
  · exact ⟨none, 0, by rw [e, e2], fun h0 => by omega⟩
  · refine ⟨_, cap, e, fun h0 => ⟨b, 0, rfl, fun j hj => ?_⟩⟩
    obtain ⟨f, hf⟩ : ∃ f, L[j]? = some f := ⟨_, List.getElem?_eq_getElem hj⟩
    have hd : dsOf L j = ddOf f := by unfold dsOf; rw [List.getD_eq_getElem?_getD, hf]; rfl
    obtain ⟨a1, a2, a3⟩ := facc_at L j f hf
    have key : ∀ i v, (facc L)[i]? = some v → w.cell? ⟨b, 0 + i, none⟩ = some v := fun i v hv => by
      rw [Nat.zero_add, cell_of hg]
      rw [← h4] at hv
      have hi := (List.getElem?_eq_some_iff.1 hv).1
      rw [List.length_take] at hi
      rw [List.getElem?_take_of_lt (by omega)] at hv
      simpa using hv
    rw [hd]
    refine ⟨key _ _ a1, ?_, ?_⟩
    · have := key _ _ a2; rw [← Nat.add_assoc] at this; exact this
    · have := key _ _ a3; rw [← Nat.add_assoc] at this; exact this

theorem own_fact {w : World} {B k cp : Nat} {fa : Option Addr} {L : List Fa} (own : w.ownsRow B 105 3 (.slice fa k cp) L.length (facc L)) {i : Nat} {f : Fa} (hf : L[i]? = some f) : ∃ fb, fa = some ⟨fb, 0, none⟩ ∧ w.cell? ⟨fb, i * 3, none⟩ = some (.int .i64 f.s) ∧ w.cell? ⟨fb, i * 3 + 1, none⟩ = some (.int .i64 f.g) ∧ w.cell? ⟨fb, i * 3 + 2, none⟩ = some (.int .i64 f.a) := by
  have hil := (List.getElem?_eq_some_iff.1 hf).1
  obtain ⟨a1, a2, a3⟩ := facc_at L i f hf
  rcases own.2 with ⟨_, e2⟩ | ⟨b, cap, cur, e, hB, hg, h1, h2, h3, h4⟩
  · omega
  · have ea : fa = some ⟨b, 0, none⟩ := by injection e
    have key : ∀ i v, (facc L)[i]? = some v → w.cell? ⟨b, i, none⟩ = some v := fun i v hv => by
      rw [cell_of hg]
      rw [← h4] at hv
      have hi := (List.getElem?_eq_some_iff.1 hv).1
      rw [List.length_take] at hi
      rw [List.getElem?_take_of_lt (by omega)] at hv
      simpa using hv
    exact ⟨b, ea, key _ _ a1, key _ _ a2, key _ _ a3⟩

section
variable {c : SC} {w0 w w' : World} {g g' : G} {s s' : SS} {m m' : MV}

set_option maxRecDepth 20000 in
set_option maxHeartbeats 4000000 in
theorem there_is (h : Sm c w0 g s m w) (hx : ∀ x ∈ s.ns, ∃ i : Nat, x = (c.fst : Int) + i ∧ i < s.fs.length) (hl : s.fs.length ≤ 100000) (hn : s.ns.length ≤ 10000) (hf : c.fst ≤ 100000) :
    Calls Tryz.prog 94 #[.pointer (some ⟨c.SB, 4, none⟩)] w fun e w' => ∃ ao cp, e = .returned (.slice ao s.ns.length cp) ∧ Hid (Kn.Deeds w' ao s.ns.length (dsOf (thereF c.fst s.fs s.ns))) ∧ Hid (Below w.heap.size w w') := by
  have c4 := h.c4
  have c5 := h.c5
  have c6 := h.c6
  obtain ⟨nn, hnn⟩ : ∃ nn, s.ns.length = nn := ⟨_, rfl⟩
  obtain ⟨na, np, en⟩ : ∃ na np, m.nv = .slice na nn np := by
    rcases h.nu.1.2 with ⟨e, e2⟩ | ⟨b, cap, cur, e, _⟩
    · exact ⟨none, 0, by rw [e, ← hnn, e2]⟩
    · exact ⟨_, cap, by rw [e, hnn]⟩
  rw [en] at c6
  rw [hnn] at hn ⊢
  obtain ⟨fl, hfl⟩ : ∃ fl, s.fs.length = fl := ⟨_, rfl⟩
  obtain ⟨fa, fcap, efv⟩ : ∃ fa fcap, m.fv = .slice fa fl fcap := by
    rcases h.fa.1.2 with ⟨e, e2⟩ | ⟨b, cap, cur, e, _⟩
    · exact ⟨none, 0, by rw [e, ← hfl, e2]⟩
    · exact ⟨_, cap, by rw [e, hfl]⟩
  rw [efv] at c5
  have HN : Hid (OwnL w w0.heap.size (.slice na nn np) s.ns) := hid (by rw [← en]; exact h.nu.1)
  have HFA := hid h.fa.1
  have HEF := hid efv
  have HX := hid hx
  have HNN := hid hnn
  have HFL := hid hfl
  rw [hfl] at hl
  obtain ⟨i0, hi, hz0, hz1, hz2⟩ := info_parts Tryz.info105
  obtain ⟨cs, hcs, mk⟩ : ∃ cs : Array Value, cs.size = nn * 3 ∧ ∀ W : World, (Instr.makeSlice 57 (.int .i64 0) (.int .i64 nn)).run Tryz.prog W = .ok (.slice (some ⟨W.heap.size, 0, none⟩) 0 nn) (W.alloc (.cells cs 105)) := by
    refine ⟨_, ?_, fun W => run_make (P := Tryz.prog) W 57 105 i0 (.agg #[.int .i64 0, .int .i64 0, .int .i64 0]) Tryz.underlying57 hi hz0 .i64 .i64 0 nn (by omega) (by omega) (by rw [hz2]; omega) (by omega)⟩
    rw [hz1]; simp [size_madeCells]
  have hlt0 := h.sb_lt
  have B1 := hid (alloc_below0 w (.cells cs 105))
  have O1 : Hid ((w.alloc (.cells cs 105)).ownsRow w.heap.size 105 3 (.slice (some ⟨w.heap.size, 0, none⟩) 0 nn) 0 (facc [])) := hid ⟨rfl, .inr ⟨w.heap.size, nn, cs, rfl, Nat.le_refl _, new_same w _, Nat.zero_le _, by unfold maxLen; omega, hcs, rfl⟩⟩
  clear h hx hnn hfl efv en hcs
  go_enter Tryz.func94, Tryz.ntmps94
  go_wp2
  generalize hw1 : w.alloc (.cells cs 105) = w1 at *
  clear hw1 mk
  go_loopw [3, 17] (fun v i wr => ∃ (q : Nat), q ≤ nn ∧ i = .int .i64 q ∧ Hid (wr.ownsRow w.heap.size 105 3 v (thereF c.fst s.fs (s.ns.take q)).length (facc (thereF c.fst s.fs (s.ns.take q)))) ∧ Hid (Below w.heap.size w wr)) (fun _ i _ => nn - (intOf i).toNat)
  case atStart => exact ⟨0, Nat.zero_le _, rfl, O1, B1⟩
  case round =>
    clear O1 B1
    obtain ⟨q, hq, rfl, o1, bw⟩ := hrel
    by_cases hlt : q < nn
    · have hlt' : (q : Int) < nn := by omega
      obtain ⟨nb, y, rfl, hy, hc⟩ := (own_row HN.out).2 q hlt
      obtain ⟨i, hyi, hil⟩ := HX.out y (List.mem_of_getElem? hy)
      rw [HFL.out] at hil
      have hil' : (i : Int) < fl := by omega
      obtain ⟨f, hf1⟩ : ∃ f, s.fs[i]? = some f := ⟨_, List.getElem?_eq_getElem (by rw [HFL.out]; exact hil)⟩
      have hfa : factAt c.fst s.fs y = f := by
        unfold factAt
        rw [List.getD_eq_getElem?_getD, show (y - (c.fst : Int)).toNat = i by omega, hf1]; rfl
      obtain ⟨fb, hfb, x0, x1, x2⟩ : ∃ fb, fa = some ⟨fb, 0, none⟩ ∧ w.cell? ⟨fb, i * 3, none⟩ = some (.int .i64 f.s) ∧ w.cell? ⟨fb, i * 3 + 1, none⟩ = some (.int .i64 f.g) ∧ w.cell? ⟨fb, i * 3 + 2, none⟩ = some (.int .i64 f.a) := by
        exact own_fact (by rw [← HEF.out]; exact HFA.out) hf1
      subst hfb
      have d4 := bl_cell bw.out c4
      have d5 := bl_cell bw.out c5
      have d6 := bl_cell bw.out c6
      have dy := bl_cell bw.out hc
      have e0 := bl_cell bw.out x0
      have e1 := bl_cell bw.out x1
      have e2 := bl_cell bw.out x2
      have lt6 := Nat.lt_of_lt_of_le hlt0 bw.out.size
      have hE : (wr.alloc (.cells #[.int .i64 f.s, .int .i64 f.g, .int .i64 f.a] 105)).heap[wr.heap.size]? = some (.cells #[.int .i64 f.s, .int .i64 f.g, .int .i64 f.a] 105 (0, 0)) := new_same wr _
      obtain ⟨K, hK⟩ : ∃ K, (thereF c.fst s.fs (s.ns.take q)).length = K := ⟨_, rfl⟩
      have hKq : K = q := by rw [← hK, there_len, List.length_take, HNN.out]; omega
      obtain ⟨v7, w7, r7, o7, g7, n7⟩ := run_fact (w1 := wr) (w := (wr.alloc (.cells #[.int .i64 f.s, .int .i64 f.g, .int .i64 f.a] 105)).drew) 0 f (by go_grown) w.heap.size u3 (thereF c.fst s.fs (s.ns.take q)) o1.out wr.heap.size (cell_of (o := 0) hE) (cell_of (o := 1) hE) (cell_of (o := 2) hE) (by omega) bw.out.size
      obtain ⟨b7, p7, rfl⟩ := own_pos o7
      obtain ⟨va, vp, rfl⟩ : ∃ va vp, u3 = .slice va K vp := by
        rcases o1.out.2 with ⟨e, e2⟩ | ⟨b, cap, cur, e, _⟩
        · exact ⟨none, 0, by rw [e, ← hK, e2]⟩
        · exact ⟨_, cap, by rw [e, hK]⟩
      have R7 : Hid (∀ ty, (Builtin.append_ #[57, 57] ty #[.slice va K vp, .slice (some ⟨wr.heap.size, 0, none⟩) 1 1]).run Tryz.prog (wr.alloc (.cells #[.int .i64 f.s, .int .i64 f.g, .int .i64 f.a] 105)).drew = .ok (.slice (some ⟨b7, 0, none⟩) ((thereF c.fst s.fs (s.ns.take q)).length + 1) p7) w7) := hid (fun ty => r7)
      have O7 : Hid (w7.ownsRow w.heap.size 105 3 (.slice (some ⟨b7, 0, none⟩) ((thereF c.fst s.fs (s.ns.take q)).length + 1) p7) (thereF c.fst s.fs (s.ns.take (q + 1))).length (facc (thereF c.fst s.fs (s.ns.take (q + 1))))) := hid (by
        rw [there_next hy, hfa, List.length_append]; exact o7)
      have B7 : Hid (Below w.heap.size w w7) := hid (bw.out.trans (below_grown g7 (fun j hj => (own_lt o1.out hj).1) bw.out.size))
      rw [hK] at R7 O7
      subst hyi
      have ew : IntKind.i64.wrap ((c.fst : Int) + i - c.fst) = (i : Int) := by rw [IntKind.wrap_i64]; omega
      have em0 : ((i : Nat) : Int) * 3 = ((i * 3 : Nat) : Int) := by omega
      clear o7 g7 n7 r7 o1 hE hfa hf1 x0 x1 x2 hc hy hK hKq
      go_wp2
      go_region_law (refine step_of (t := 57) (v := .slice va K vp) (u := .slice (some ⟨wr.heap.size, 0, none⟩) 1 1) rfl _ _ rfl rfl rfl (R7.out _) ?_)
      all_goals go_wp2
      all_goals go_roundw
      all_goals first
        | exact ⟨q + 1, by omega, by go_num, O7, B7⟩
        | (simp only [intOf]; omega)
    · have HT : Hid (s.ns.take q = s.ns) := hid (List.take_of_length_le (by rw [HNN.out]; omega))
      have o2 := o1.out
      rw [HT.out] at o2
      obtain ⟨ao, cp, e, hd⟩ := own_deeds o2
      rw [there_len, HNN.out] at e hd
      subst e
      have HD := hid hd
      clear o1 o2 hd HT
      go_wp2
      go_ret
      exact ⟨ao, cp, rfl, HD, bw⟩
end
end Go.Proofs.YtimfjoinjfecjaaGreat

namespace Go.Proofs.YtimfjoinjfecjaaGreat
open Go.RowKit Go.Maps
set_option linter.unusedVariables false

section
variable {c : SC} {w0 w w' : World} {g g' : G} {s s' : SS} {m m' : MV}

theorem GVt.retag {ow : Nat → Nat} {vs : List Value} {xss : List (List Int)} (h : GVt w0 w ow vs xss) (j : Nat) : GVt w0 w (up ow j 0) vs xss := by
  refine ⟨h.1, fun i hi => ?_⟩
  obtain ⟨a, n, cc, e1, e2, e3⟩ := h.2 i hi
  refine ⟨a, n, cc, e1, e2, fun h0 => ?_⟩
  obtain ⟨b, off, e, q⟩ := e3 h0
  refine ⟨b, off, e, ?_⟩
  rcases q with q | ⟨q1, q2⟩
  · exact .inl q
  · refine .inr ⟨q1, ?_⟩
    by_cases e : b = j
    · subst e; exact up_same _ _ _
    · rw [up_ne _ _ e]; exact q2

/-- A block that is nobody's is never written again. -/
theorem Sm.retag (h : Sm c w0 g s m w) {j : Nat} (hj : w0.heap.size ≤ j) (hf : ¬ Foot c.k c.kw g m.p s.H j) (ho : m.ow j = 1) (ht : ∃ T, Typ w j T ∧ ¬ Wt T) : Sm c w0 g s { m with ow := up m.ow j 0 } w := by
  have key : ∀ i t, m.ow i = t → t ≠ 1 → up m.ow j 0 i = t := fun i t e h1 => by
    rw [up_ne _ _ (by rintro rfl; omega)]; exact e
  have hcr : ∀ (x : Nat) {v : Value} {xss : List (List Int)}, x ≠ 1 → CR w0 w m.ow x v xss → CR w0 w (up m.ow j 0) x v xss := fun x v xss hx q => by
    obtain ⟨vs, h1, h2, h3, h4⟩ := q
    exact ⟨vs, h1, fun i e => key i x (h2 i e) hx, h3.retag j, h4⟩
  refine ⟨h.W, h.o, h.sb, hcr 4 (by decide) h.cl, hcr 5 (by decide) h.pr, ⟨h.fa.1, fun i e => key i 8 (h.fa.2 i e) (by decide)⟩, ⟨h.nu.1, fun i e => key i 3 (h.nu.2 i e) (by decide)⟩, h.tr, h.b0, h.hB, h.hn, fun i hi => ?_, fun i hi => ?_, fun i hi => key i 2 (h.t.od i hi) (by decide), key _ 6 h.t.sb (by decide), key _ 7 h.t.tb (by decide), fun i hi h1 => ?_, fun i hi => ?_, fun i hi => ?_⟩
  · show up m.ow j 0 i = 1
    rw [up_ne _ _ (by omega)]; exact h.t.lo i hi
  · show up m.ow j 0 i = 1
    rw [up_ne _ _ (by rintro rfl; exact hf hi)]; exact h.t.ft i hi
  · change up m.ow j 0 i ≠ 1 at h1
    by_cases e : i = j
    · subst e; exact ht
    · rw [up_ne _ _ e] at h1; exact h.t.ty i hi h1
  · change up m.ow j 0 i = 6 at hi
    by_cases e : i = j
    · subst e; rw [up_same] at hi; omega
    · rw [up_ne _ _ e] at hi; exact h.t.u6 i hi
  · change up m.ow j 0 i = 7 at hi
    by_cases e : i = j
    · subst e; rw [up_same] at hi; omega
    · rw [up_ne _ _ e] at hi; exact h.t.u7 i hi

theorem Kp.retag {ow ow' : Nat → Nat} (k : Kp w0 w ow w' ow') {j : Nat} (hj : w.heap.size ≤ j) : Kp w0 w ow w' (up ow' j 0) :=
  ⟨fun vs xss q => (k.gv vs xss q).retag j, fun i hi e => by rw [up_ne _ _ (by omega)]; exact k.on i hi e, k.sz, fun i hi e => ⟨(k.zz i hi e).1, by rw [up_ne _ _ (by omega)]; exact (k.zz i hi e).2⟩⟩

theorem OwnL.base {B B' : Nat} {v : Value} {xs : List Int} (h : OwnL w B v xs) (hB : B' ≤ B) : OwnL w B' v xs := by
  refine ⟨h.1, ?_⟩
  rcases h.2 with q | ⟨b, cap, cur, e, hb, rest⟩
  · exact .inl q
  · exact .inr ⟨b, cap, cur, e, by omega, rest⟩

theorem OwnL.shape {B : Nat} {v : Value} {xs : List Int} (h : OwnL w B v xs) : ∃ a cp, v = .slice a xs.length cp := by
  rcases h.2 with ⟨e, e2⟩ | ⟨b, cap, cur, e, _⟩
  · exact ⟨none, 0, by rw [e, e2]⟩
  · exact ⟨_, cap, e⟩

/-- A list that is owned, as a row. -/
theorem OwnL.row {B n cp : Nat} {a : Option Addr} {xs : List Int} (h : OwnL w B (.slice a n cp) xs) (hx : ∀ x ∈ xs, -9223372036854775808 ≤ x ∧ x ≤ 9223372036854775807) : U.Row w a n cp xs ∧ (0 < n → ∃ b, a = some ⟨b, 0, none⟩ ∧ B ≤ b ∧ Typ w b 3) := by
  obtain ⟨r1, r2⟩ := own_row h
  rcases h.2 with ⟨e, e2⟩ | ⟨b, cap, cur, e, hb, hg, h1, h2, h3, h4⟩
  · have : n = 0 := by omega
    subst this
    cases e
    exact ⟨⟨r1.symm, Nat.le_refl _, by unfold maxLen; omega, fun _ => rfl, hx, fun h0 => by omega⟩, fun h0 => by omega⟩
  · cases e
    refine ⟨⟨rfl, h1, h2, (fun q => by cases q), hx, fun h0 => ⟨b, 0, rfl, fun j hj => ?_⟩⟩, fun _ => ⟨b, rfl, hb, ⟨_, _, hg⟩⟩⟩
    obtain ⟨b', y, e, hy, hc⟩ := r2 j hj
    cases e
    rw [Nat.zero_add, hc]
    simp [hy]

/-- So many are sorted out. -/
structure Srt (w4 : World) (B : Nat → Bool) (ns : List Int) (q : Nat) (v3 v4 : Value) (wr : World) : Prop where
  st : OwnL wr w4.heap.size v3 (selF true B 0 (ns.take q))
  go : OwnL wr w4.heap.size v4 (selF false B 0 (ns.take q))
  ne : ∀ j, v3.ownBlock = some j → v4.ownBlock ≠ some j
  be : Below w4.heap.size w4 wr

theorem Srt.yes {w4 wr w7 : World} {B : Nat → Bool} {ns : List Int} {q : Nat} {v3 v4 v7 : Value} {x : Int} (h : Srt w4 B ns q v3 v4 wr) (hx : ns[q]? = some x) (hb : B q = true) (o7 : OwnL w7 w4.heap.size v7 (selF true B 0 (ns.take q) ++ [x])) (g7 : wr.grownBy w7 v3.ownBlock) (n7 : Nw wr v3 v7) : Srt w4 B ns (q + 1) v7 v4 w7 := by
  have h4 : ∀ j, v4.ownBlock = some j → v3.ownBlock ≠ some j := fun j e e2 => h.ne j e2 e
  refine ⟨by rw [sel_yes hx hb]; exact o7, ?_, fun j e e2 => ?_, h.be.trans (below_grown g7 (fun j hj => (own_lt h.st hj).1) h.be.size)⟩
  · rw [sel_no hx (by rw [hb]; decide)]
    exact OwnL.same h.go (fun j e => g7.block j (own_lt h.go e).2 (fun q => h4 j e q.symm))
  · rcases n7 j e with q | q
    · exact h.ne j q e2
    · have := (own_lt h.go e2).2; omega

theorem Srt.no {w4 wr w7 : World} {B : Nat → Bool} {ns : List Int} {q : Nat} {v3 v4 v7 : Value} {x : Int} (h : Srt w4 B ns q v3 v4 wr) (hx : ns[q]? = some x) (hb : B q = false) (o7 : OwnL w7 w4.heap.size v7 (selF false B 0 (ns.take q) ++ [x])) (g7 : wr.grownBy w7 v4.ownBlock) (n7 : Nw wr v4 v7) : Srt w4 B ns (q + 1) v3 v7 w7 := by
  refine ⟨?_, by rw [sel_yes hx hb]; exact o7, fun j e e2 => ?_, h.be.trans (below_grown g7 (fun j hj => (own_lt h.go hj).1) h.be.size)⟩
  · rw [sel_no hx (by rw [hb]; decide)]
    exact OwnL.same h.st (fun j e => g7.block j (own_lt h.st e).2 (fun q => h.ne j e q.symm))
  · rcases n7 j e2 with q | q
    · exact h.ne j e q
    · have := (own_lt h.st e).2; omega

def redF (fst : Nat) (s : SS) : SS := (s.lm (s.lim + 300)).N (stayF fst s)

/-- What reduce has told. -/
def RedEnd (c : SC) (w0 w : World) (g : G) (s : SS) (m : MV) (ao : Option Addr) (n cp : Nat) (w' : World) : Prop := ∃ m', Sm c w0 g (redF c.fst s) m' w' ∧ Kp w0 w m.ow w' m'.ow ∧ GVt w0 w' m'.ow [.slice ao n cp] [gonsF c.fst s]

theorem red_end {w4 wr : World} {m4 : MV} {a3 a4 : Option Addr} {n3 n4 p3 p4 : Nat} (hw : w.heap.size ≤ w4.heap.size) (h4 : Sm c w0 g (s.lm (s.lim + 300)) m4 w4) (k4 : Kp w0 w m.ow w4 m4.ow) (sr : Srt w4 (keptF c.fst s) s.ns s.ns.length (.slice a3 n3 p3) (.slice a4 n4 p4) wr) (hx : ∀ x ∈ s.ns, -9223372036854775808 ≤ x ∧ x ≤ 9223372036854775807) :
    wr.heap[c.SB]? = some (.cells (sbc c (s.lm (s.lim + 300)) m4) 61 (0, 0)) ∧ RedEnd c w0 w g s m a4 n4 p4 (wr.setCell ⟨c.SB, 6, none⟩ (.slice a3 n3 p3)) := by
  have e1 : selF true (keptF c.fst s) 0 (s.ns.take s.ns.length) = stayF c.fst s := by rw [List.take_length]; rfl
  have e2 : selF false (keptF c.fst s) 0 (s.ns.take s.ns.length) = gonsF c.fst s := by rw [List.take_length]; rfl
  have o3 := sr.st
  have o4 := sr.go
  rw [e1] at o3
  rw [e2] at o4
  have hb4 := h4.b0.size
  obtain ⟨q1, q2, q3⟩ := h4.setn (o3.base hb4) ⟨sr.be.os, sr.be.tape, sr.be.output, sr.be.size, fun j hj _ => sr.be.block j hj⟩ (fun j e => .inr (own_lt o3 e).1)
  refine ⟨q1, ?_⟩
  have hxg : ∀ x ∈ gonsF c.fst s, -9223372036854775808 ≤ x ∧ x ≤ 9223372036854775807 := fun x hx2 => hx x ((sel_sub false _ _ _).subset hx2)
  have hset : ∀ j, (Value.slice a4 n4 p4).ownBlock = some j → j ≠ c.SB := fun j e q => by
    have := (own_lt o4 e).1
    have h5 := h4.sb_lt
    omega
  have o5 : OwnL (wr.setCell ⟨c.SB, 6, none⟩ (.slice a3 n3 p3)) w4.heap.size (.slice a4 n4 p4) (gonsF c.fst s) := own_set_other (x := .slice a3 n3 p3) (a := ⟨c.SB, 6, none⟩) o4 hset
  obtain ⟨r1, r2⟩ := o5.row hxg
  by_cases h0 : 0 < n4
  · obtain ⟨b, rfl, hb, ht⟩ := r2 h0
    have ho : owT m4.ow 3 w4.heap.size (fun j => decide ((Value.slice a3 n3 p3).ownBlock = some j)) b = 1 := by
      unfold owT
      rw [if_pos (.inr hb), if_neg]
      intro q
      exact sr.ne b (by simpa using q) rfl
    have hft : ¬ Foot c.k c.kw g m4.p s.H b := fun q => by have := h4.W.foot_lt q; omega
    refine ⟨_, q2.retag (by omega) hft ho ⟨3, ht, by simp [Wt]⟩, (k4.trans q3).retag (by omega), rfl, fun j hj => ?_⟩
    obtain rfl : j = 0 := by simp at hj; omega
    exact ⟨_, _, _, rfl, r1, fun _ => ⟨b, 0, rfl, .inr ⟨ht.lt, up_same _ _ _⟩⟩⟩
  · refine ⟨_, q2, k4.trans q3, rfl, fun j hj => ?_⟩
    obtain rfl : j = 0 := by simp at hj; omega
    exact ⟨_, _, _, rfl, r1, fun h => absurd h h0⟩
end
end Go.Proofs.YtimfjoinjfecjaaGreat
