/-
  What a conflict teaches, plainly: the way down the trail as plain functions; that it comes to an end, and that what it comes to follows at once.
-/
import Derived.Test.YtimfjoinjfecjaaGreatQ11
import Derived.Test.YtimfjoinjfecjaaGreatQ06

namespace Go.Proofs.YtimfjoinjfecjaaGreat
set_option linter.unusedVariables false

/-- What is known on the way: marks, the variables that were met, how many of the level are left, the others. -/
structure PS where
  mrk : Nat → Nat
  met : List Nat
  op : Int
  oth : List Int

def zeroP : PS := ⟨fun _ => 0, [], 0, []⟩
def addP (L : List E) (lev : Nat) (s : PS) (x : Int) (v : Nat) : PS :=
  if levelF L v = 0 then s else
    { mrk := upN s.mrk v 1, met := s.met ++ [v], op := if levelF L v = lev then s.op + 1 else s.op, oth := if levelF L v = lev then s.oth else s.oth ++ [x] }

def meetP (L : List E) (lev : Nat) (s : PS) (x : Int) : Bool × PS :=
  if valueF L x = -1 then (if s.mrk (vl x) = 1 then (true, s) else if s.mrk (vl x) = 2 then (false, s) else (true, addP L lev s x (vl x))) else (false, s)

def meetsP (L : List E) (lev : Nat) : PS → List Int → Bool × PS
  | s, [] => (true, s)
  | s, x :: c => if (meetP L lev s x).1 = true then meetsP L lev (meetP L lev s x).2 c else (false, (meetP L lev s x).2)

def clF (cls : List (List Int)) (r : Int) : Option (List Int) := if r < 0 then none else cls[r.toNat]?

def replP (L : List E) (lev : Nat) (cls : List (List Int)) (s : PS) (x : Nat) : Bool × PS :=
  match clF cls (reasonF L ((x / 2 : Nat) : Int)) with
  | none => (false, s)
  | some c => if (meetsP L lev s (c.filter (fun y => decide (y ≠ (x : Int))))).1 = true then (decide ((x : Int) ∈ c), { (meetsP L lev s (c.filter (fun y => decide (y ≠ (x : Int))))).2 with op := (meetsP L lev s (c.filter (fun y => decide (y ≠ (x : Int))))).2.op - 1 }) else (false, (meetsP L lev s (c.filter (fun y => decide (y ≠ (x : Int))))).2)

def passP (s : PS) (x : Nat) : PS := { s with mrk := upN s.mrk (x / 2) 2 }

def downP (L : List E) (lev : Nat) (cls : List (List Int)) (s : PS) (x : Nat) : Sum PS (Option (Nat × PS)) :=
  if levelF L ((x / 2 : Nat) : Int) = lev then
    if s.mrk (x / 2) = 1 then
      if s.op = 1 then .inr (some (x, passP s x))
      else if (replP L lev cls (passP s x) x).1 = true then .inl (replP L lev cls (passP s x) x).2 else .inr none
    else .inl (passP s x)
  else .inr none

def downsP (L : List E) (lev : Nat) (cls : List (List Int)) : PS → List Nat → Sum PS (Option (Nat × PS))
  | s, [] => .inl s
  | s, x :: r => match downP L lev cls s x with
    | .inl s' => downsP L lev cls s' r
    | .inr o => .inr o

def endP : Sum PS (Option (Nat × PS)) → Option (Nat × PS)
  | .inl _ => none
  | .inr o => o

def learnP (L : List E) (lev : Nat) (cls : List (List Int)) (conflict : Int) : Option (Nat × PS) :=
  if lev = 0 then none else
    match clF cls conflict with
    | none => none
    | some c => if (meetsP L lev zeroP c).1 = true then endP (downsP L lev cls (meetsP L lev zeroP c).2 (L.reverse.map E.l)) else none

/-! ### Lists one behind the other -/
theorem meets_app {L : List E} {lev : Nat} : ∀ (c d : List Int) (s : PS), (meetsP L lev s c).1 = true → meetsP L lev s (c ++ d) = meetsP L lev (meetsP L lev s c).2 d := by
  intro c
  induction c with
  | nil => intro d s _; rfl
  | cons x c ih =>
    intro d s h
    simp only [meetsP, List.cons_append] at h ⊢
    by_cases hx : (meetP L lev s x).1 = true
    · rw [if_pos hx] at h ⊢; rw [if_pos hx]; exact ih d _ h
    · rw [if_neg hx] at h; cases h

theorem meets_app_no {L : List E} {lev : Nat} : ∀ (c d : List Int) (s : PS), (meetsP L lev s c).1 = false → meetsP L lev s (c ++ d) = meetsP L lev s c := by
  intro c
  induction c with
  | nil => intro d s h; cases h
  | cons x c ih =>
    intro d s h
    simp only [meetsP, List.cons_append] at h ⊢
    by_cases hx : (meetP L lev s x).1 = true
    · rw [if_pos hx] at h ⊢; rw [if_pos hx]; exact ih d _ h
    · rw [if_neg hx, if_neg hx]

theorem meets_one {L : List E} {lev : Nat} (s : PS) (x : Int) : meetsP L lev s [x] = meetP L lev s x := by
  simp only [meetsP]
  by_cases hx : (meetP L lev s x).1 = true
  · rw [if_pos hx, ← hx]
  · rw [if_neg hx]
    have : (meetP L lev s x).1 = false := by simpa using hx
    rw [← this]

theorem meets_snoc {L : List E} {lev : Nat} {s : PS} {c : List Int} (h : (meetsP L lev s c).1 = true) (x : Int) : meetsP L lev s (c ++ [x]) = meetP L lev (meetsP L lev s c).2 x := by
  rw [meets_app c [x] s h, meets_one]

theorem downs_app {L : List E} {lev : Nat} {cls : List (List Int)} : ∀ (r r' : List Nat) (s s' : PS), downsP L lev cls s r = .inl s' → downsP L lev cls s (r ++ r') = downsP L lev cls s' r' := by
  intro r
  induction r with
  | nil => intro r' s s' h; cases h; rfl
  | cons x r ih =>
    intro r' s s' h
    simp only [downsP, List.cons_append] at h ⊢
    cases hd : downP L lev cls s x with
    | inl s1 => rw [hd] at h; exact ih r' s1 s' h
    | inr o => rw [hd] at h; cases h

theorem downs_no {L : List E} {lev : Nat} {cls : List (List Int)} : ∀ (r r' : List Nat) (s : PS) (o : Option (Nat × PS)), downsP L lev cls s r = .inr o → downsP L lev cls s (r ++ r') = .inr o := by
  intro r
  induction r with
  | nil => intro r' s o h; cases h
  | cons x r ih =>
    intro r' s o h
    simp only [downsP, List.cons_append] at h ⊢
    cases hd : downP L lev cls s x with
    | inl s1 => rw [hd] at h; exact ih r' s1 o h
    | inr o' => rw [hd] at h; exact h

/-! ### Bounds -/
structure Wf (n : Nat) (s : PS) : Prop where
  nd : s.met.Nodup
  lt : ∀ v ∈ s.met, v < n
  mrk : ∀ v ∈ s.met, s.mrk v ≠ 0
  ol : s.oth.length ≤ s.met.length
  ou : s.op ≤ s.met.length
  ob : ∀ x ∈ s.oth, 0 ≤ x ∧ x < 2 * (n : Int)

theorem Wf.zero (n : Nat) : Wf n zeroP := ⟨by simp [zeroP], by simp [zeroP], by simp [zeroP], by simp [zeroP], by simp [zeroP], by simp [zeroP]⟩

theorem Wf.len {n : Nat} {s : PS} (h : Wf n s) : s.met.length ≤ n := pig n s.met h.nd h.lt

theorem Wf.add {n : Nat} {s : PS} (h : Wf n s) (L : List E) (lev : Nat) (x : Int) {v : Nat} (hv : v < n) (h0 : s.mrk v = 0) (hx : 0 ≤ x ∧ x < 2 * (n : Int)) : Wf n (addP L lev s x v) ∧ s.op ≤ (addP L lev s x v).op := by
  unfold addP
  by_cases hz : levelF L v = 0
  · rw [if_pos hz]; exact ⟨h, Int.le_refl _⟩
  · rw [if_neg hz]
    have hn : v ∉ s.met := fun c => h.mrk v c h0
    refine ⟨⟨?_, ?_, ?_, ?_, ?_, ?_⟩, ?_⟩
    · rw [List.nodup_append]
      refine ⟨h.nd, by simp, fun a ha b hb => ?_⟩
      rw [List.mem_singleton] at hb
      subst hb
      exact fun c => hn (c ▸ ha)
    · intro u hu
      rcases List.mem_append.1 hu with c | c
      · exact h.lt u c
      · rw [List.mem_singleton] at c; subst c; exact hv
    · intro u hu
      simp only [upN]
      by_cases e : u = v
      · rw [if_pos e]; decide
      · rw [if_neg e]
        rcases List.mem_append.1 hu with c | c
        · exact h.mrk u c
        · rw [List.mem_singleton] at c; exact absurd c e
    · have := h.ol
      simp only [List.length_append, List.length_singleton]
      split <;> simp <;> omega
    · have := h.ou
      simp only [List.length_append, List.length_singleton]
      split <;> omega
    · intro y hy
      simp only at hy
      split at hy
      · exact h.ob y hy
      · rcases List.mem_append.1 hy with c | c
        · exact h.ob y c
        · rw [List.mem_singleton] at c; subst c; exact hx
    · simp only; split <;> omega

/-- Marks are 0, 1 and 2. -/
def Mk2 (s : PS) : Prop := ∀ i, s.mrk i ≤ 2

theorem Wf.meet {n : Nat} {s : PS} (h : Wf n s) (h2 : Mk2 s) {L : List E} {lev : Nat} {x : Int} (hx : valueF L x = -1 → vl x < n) : Wf n (meetP L lev s x).2 ∧ s.op ≤ (meetP L lev s x).2.op ∧ Mk2 (meetP L lev s x).2 := by
  unfold meetP
  by_cases h1 : valueF L x = -1
  · rw [if_pos h1]
    by_cases h3 : s.mrk (vl x) = 1
    · rw [if_pos h3]; exact ⟨h, Int.le_refl _, h2⟩
    · rw [if_neg h3]
      by_cases h4 : s.mrk (vl x) = 2
      · rw [if_pos h4]; exact ⟨h, Int.le_refl _, h2⟩
      · rw [if_neg h4]
        have h5 := h2 (vl x)
        obtain ⟨_, h6, _⟩ := val_neg (L := L) (x := x) (by omega)
        have h7 := hx h1
        obtain ⟨a, b⟩ := h.add L lev x h7 (by omega) ⟨h6, by unfold vl at h7; omega⟩
        refine ⟨a, b, ?_⟩
        unfold addP
        split
        · exact h2
        · intro i
          simp only [upN]
          split
          · omega
          · exact h2 i
  · rw [if_neg h1]; exact ⟨h, Int.le_refl _, h2⟩

theorem Wf.meets {n : Nat} {L : List E} {lev : Nat} : ∀ (c : List Int) (s : PS), Wf n s → Mk2 s → (∀ x ∈ c, valueF L x = -1 → vl x < n) → Wf n (meetsP L lev s c).2 ∧ s.op ≤ (meetsP L lev s c).2.op ∧ Mk2 (meetsP L lev s c).2 := by
  intro c
  induction c with
  | nil => intro s h h2 _; exact ⟨h, Int.le_refl _, h2⟩
  | cons x c ih =>
    intro s h h2 hx
    obtain ⟨a, b, d⟩ := h.meet (lev := lev) h2 (hx x (by simp))
    simp only [meetsP]
    split
    · obtain ⟨a', b', d'⟩ := ih _ a d (fun y hy => hx y (by simp [hy]))
      exact ⟨a', Int.le_trans b b', d'⟩
    · exact ⟨a, b, d⟩

theorem Wf.pass {n : Nat} {s : PS} (h : Wf n s) (h2 : Mk2 s) (x : Nat) : Wf n (passP s x) ∧ Mk2 (passP s x) := by
  refine ⟨⟨h.nd, h.lt, fun v hv => ?_, h.ol, h.ou, h.ob⟩, fun i => ?_⟩
  · simp only [passP, upN]
    split
    · decide
    · exact h.mrk v hv
  · simp only [passP, upN]
    split
    · omega
    · exact h2 i

theorem Wf.repl {n : Nat} {s : PS} (h : Wf n s) (h2 : Mk2 s) {L : List E} {lev : Nat} {cls : List (List Int)} (x : Nat) (hx : ∀ y, valueF L y = -1 → vl y < n) : Wf n (replP L lev cls s x).2 ∧ s.op - 1 ≤ (replP L lev cls s x).2.op ∧ Mk2 (replP L lev cls s x).2 := by
  unfold replP
  cases clF cls (reasonF L ((x / 2 : Nat) : Int)) with
  | none => exact ⟨h, by show s.op - 1 ≤ s.op; omega, h2⟩
  | some c =>
    obtain ⟨a, b, d⟩ := Wf.meets (L := L) (lev := lev) (c.filter (fun y => decide (y ≠ (x : Int)))) s h h2 (fun y _ => hx y)
    simp only
    split
    · have := a.ou
      exact ⟨⟨a.nd, a.lt, a.mrk, a.ol, by simp only; omega, a.ob⟩, by simp only; omega, d⟩
    · exact ⟨a, by show s.op - 1 ≤ (meetsP L lev s (c.filter (fun y => decide (y ≠ (x : Int))))).2.op; omega, d⟩

theorem vlA_lt {n : Nat} {L : List E} (hlt : ∀ e ∈ L, vr e < n) {x : Int} (h : valueF L x = -1) : vl x < n := by
  obtain ⟨_, h0, q, hq⟩ := val_neg (L := L) (x := x) (by omega)
  obtain ⟨e, he, h1⟩ := lits_at.1 hq
  have h2 := hlt e (List.mem_of_getElem? he)
  have h3 : vl (U.notF x) = vl x := vl_not h0
  rw [← h1] at h3
  unfold vl at h3 ⊢
  unfold vr at h2
  omega

/-! ### It comes to an end, and what it comes to follows -/
structure Cx (n lev : Nat) (L : List E) (cls : List (List Int)) : Prop where
  nd : ND L
  lt : ∀ e ∈ L, vr e < n
  mono : ∀ (j j' : Nat) (e e' : E), j ≤ j' → L[j]? = some e → L[j']? = some e' → e.g ≤ e'.g
  top : ∀ e ∈ L, e.g ≤ lev
  rs : ∀ (q : Nat) (e : E), L[q]? = some e → 0 ≤ e.r → ∃ (c : Nat) (cl : List Int), e.r = c ∧ cls[c]? = some cl ∧ (e.l : Int) ∈ cl ∧ ∀ y ∈ cl, y ≠ e.l → 0 ≤ y ∧ ∃ r : Nat, r < q ∧ (litsF L)[r]? = some (U.notF y)
  dc : ∀ (q : Nat) (e : E), L[q]? = some e → e.r < 0 → 1 ≤ e.g ∧ ∀ (q' : Nat) (e' : E), q' < q → L[q']? = some e' → e'.g < e.g

def cntQ (mk : Nat → Nat) (lev : Nat) (M : List E) : Nat := M.countP (fun e => decide (e.g = lev) && decide (mk (vr e) = 1))

theorem cnt_mem {mk : Nat → Nat} {lev : Nat} {M : List E} {e : E} (h : e ∈ M) (hg : e.g = lev) (hm : mk (vr e) = 1) : 1 ≤ cntQ mk lev M := by
  unfold cntQ
  exact List.countP_pos_iff.2 ⟨e, h, by simp [hg, hm]⟩

theorem cnt_has {mk : Nat → Nat} {lev : Nat} {M : List E} (h : 1 ≤ cntQ mk lev M) : ∃ e ∈ M, e.g = lev ∧ mk (vr e) = 1 := by
  unfold cntQ at h
  obtain ⟨e, h1, h2⟩ := List.countP_pos_iff.1 (show 0 < _ from h)
  simp at h2
  exact ⟨e, h1, h2.1, h2.2⟩

theorem cnt_out {mk : Nat → Nat} {lev v k : Nat} {M : List E} (h : ∀ e ∈ M, e.g = lev → vr e ≠ v) : cntQ (upN mk v k) lev M = cntQ mk lev M := by
  unfold cntQ
  refine List.countP_congr fun e he => ?_
  by_cases hg : e.g = lev
  · rw [upN_ne _ _ (h e he hg)]
  · simp [hg]

theorem cnt_in {mk : Nat → Nat} {lev : Nat} : ∀ {M : List E}, ND M → ∀ {e : E}, e ∈ M → e.g = lev → mk (vr e) ≠ 1 → cntQ (upN mk (vr e) 1) lev M = cntQ mk lev M + 1 := by
  intro M
  induction M with
  | nil => intro _ e he; cases he
  | cons a M ih =>
    intro hnd e he hg hm
    unfold ND at hnd
    rw [List.map_cons, List.nodup_cons] at hnd
    rcases List.mem_cons.1 he with rfl | he
    · have h1 : cntQ (upN mk (vr e) 1) lev M = cntQ mk lev M := cnt_out (fun e' he' _ c => hnd.1 (c ▸ List.mem_map_of_mem he'))
      unfold cntQ at h1 ⊢
      rw [List.countP_cons, List.countP_cons, h1, upN_same]
      simp [hg, hm]
    · have h1 := ih hnd.2 he hg hm
      have hne : vr a ≠ vr e := fun c => hnd.1 (c ▸ List.mem_map_of_mem he)
      unfold cntQ at h1 ⊢
      rw [List.countP_cons, List.countP_cons, h1, upN_ne _ _ hne]
      omega

structure Di (L : List E) (lev q : Nat) (k : Int) (s : PS) : Prop where
  m2 : ∀ (j : Nat) (e : E), L[j]? = some e → s.mrk (vr e) = 2 → q ≤ j
  m1 : ∀ (j : Nat) (e : E), L[j]? = some e → s.mrk (vr e) = 1 → e.g < lev → U.notF e.l ∈ s.oth
  ot : ∀ x ∈ s.oth, ∃ (j : Nat) (e : E), L[j]? = some e ∧ x = U.notF e.l ∧ 1 ≤ e.g ∧ e.g < lev
  op : s.op = cntQ s.mrk lev (L.take q) + k

def Cov (L : List E) (lev q : Nat) (s : PS) (y : Int) : Prop := ∃ (j : Nat) (e : E), L[j]? = some e ∧ j < q ∧ y = U.notF e.l ∧ (e.g = 0 ∨ (e.g = lev ∧ s.mrk (vr e) = 1) ∨ y ∈ s.oth)

/-- Nothing is lost. -/
def Up (s s' : PS) : Prop := (∀ v, s.mrk v = 1 → s'.mrk v = 1) ∧ ∀ x ∈ s.oth, x ∈ s'.oth

theorem Up.refl (s : PS) : Up s s := ⟨fun _ h => h, fun _ h => h⟩
theorem Up.trans {a b c : PS} (h : Up a b) (k : Up b c) : Up a c := ⟨fun v q => k.1 v (h.1 v q), fun x q => k.2 x (h.2 x q)⟩

theorem Cov.up {L : List E} {lev q : Nat} {s s' : PS} {y : Int} (h : Cov L lev q s y) (u : Up s s') : Cov L lev q s' y := by
  obtain ⟨j, e, h1, h2, h3, h4⟩ := h
  refine ⟨j, e, h1, h2, h3, ?_⟩
  rcases h4 with h4 | ⟨h4, h5⟩ | h4
  · exact .inl h4
  · exact .inr (.inl ⟨h4, u.1 _ h5⟩)
  · exact .inr (.inr (u.2 _ h4))

theorem vl_lit (e : E) : vl (U.notF e.l) = vr e := by
  rw [vl_not (by omega)]
  unfold vl vr
  omega

theorem level_of {L : List E} (h : ND L) {j : Nat} {e : E} (he : L[j]? = some e) : levelF L (vr e : Nat) = e.g := by
  unfold levelF; rw [at_of h he]

theorem reason_of {L : List E} (h : ND L) {j : Nat} {e : E} (he : L[j]? = some e) : reasonF L (vr e : Nat) = e.r := by
  unfold reasonF; rw [at_of h he]

theorem val_of {L : List E} (h : ND L) {j : Nat} {e : E} (he : L[j]? = some e) : valueF L (U.notF e.l) = -1 := by
  have h0 : (0 : Int) ≤ U.notF e.l := by
    unfold U.notF
    rw [if_neg (by omega)]
    split <;> omega
  refine val_not h h0 (q := j) ?_
  rw [U.not_not (by omega)]
  exact lits_at.2 ⟨e, he, rfl⟩

section
variable {n lev : Nat} {L : List E} {cls : List (List Int)}

theorem take_nd (h : ND L) (q : Nat) : ND (L.take q) := by
  unfold ND at h ⊢
  rw [List.map_take]
  exact h.sublist (List.take_sublist q _)

theorem mem_take {j q : Nat} {e : E} (he : L[j]? = some e) (hj : j < q) : e ∈ L.take q := by
  refine List.mem_iff_getElem?.2 ⟨j, ?_⟩
  rw [List.getElem?_take_of_lt hj]; exact he

theorem Di.meet (cx : Cx n lev L cls) {q : Nat} {k : Int} {s : PS} (d : Di L lev q k s) {j : Nat} {e : E} (he : L[j]? = some e) (hj : j < q) :
    ∃ s', meetP L lev s (U.notF e.l) = (true, s') ∧ Di L lev q k s' ∧ Cov L lev q s' (U.notF e.l) ∧ Up s s' := by
  unfold meetP
  rw [if_pos (val_of cx.nd he), vl_lit]
  by_cases h1 : s.mrk (vr e) = 1
  · rw [if_pos h1]
    refine ⟨s, rfl, d, ⟨j, e, he, hj, rfl, ?_⟩, Up.refl s⟩
    have := cx.top e (List.mem_of_getElem? he)
    by_cases hl : e.g = lev
    · exact .inr (.inl ⟨hl, h1⟩)
    · exact .inr (.inr (d.m1 j e he h1 (by omega)))
  · rw [if_neg h1]
    have h2 : s.mrk (vr e) ≠ 2 := fun c => by have := d.m2 j e he c; omega
    rw [if_neg h2]
    refine ⟨_, rfl, ?_⟩
    unfold addP
    rw [level_of cx.nd he]
    by_cases hz : (e.g : Int) = 0
    · rw [if_pos hz]
      exact ⟨d, ⟨j, e, he, hj, rfl, .inl (by omega)⟩, Up.refl s⟩
    · rw [if_neg hz]
      have hone : ∀ (i : Nat) (a : E), L[i]? = some a → vr a = vr e → a = e := fun i a ha hv => by
        have := nd_one cx.nd ha he hv
        subst this
        rw [he] at ha; exact (Option.some.inj ha).symm
      have hup : ∀ v, s.mrk v = 1 → upN s.mrk (vr e) 1 v = 1 := fun v hv => by
        by_cases c : v = vr e
        · rw [c, upN_same]
        · rw [upN_ne _ _ c]; exact hv
      have hm2 : ∀ (i : Nat) (a : E), L[i]? = some a → upN s.mrk (vr e) 1 (vr a) = 2 → q ≤ i := fun i a ha h => by
        by_cases c : vr a = vr e
        · rw [c, upN_same] at h; omega
        · rw [upN_ne _ _ c] at h; exact d.m2 i a ha h
      by_cases hl : e.g = lev
      · have hl' : (e.g : Int) = (lev : Int) := by omega
        simp only [if_pos hl']
        refine ⟨⟨hm2, ?_, d.ot, ?_⟩, ⟨j, e, he, hj, rfl, .inr (.inl ⟨hl, upN_same _ _ _⟩)⟩, hup, fun x hx => hx⟩
        · intro i a ha h hlt
          by_cases c : vr a = vr e
          · have := hone i a ha c; subst this; omega
          · simp only at h
            rw [upN_ne _ _ c] at h; exact d.m1 i a ha h hlt
        · have := d.op
          simp only
          rw [cnt_in (take_nd cx.nd q) (mem_take he hj) hl h1, this]
          omega
      · have hl' : ¬ (e.g : Int) = (lev : Int) := by omega
        simp only [if_neg hl']
        refine ⟨⟨hm2, ?_, ?_, ?_⟩, ⟨j, e, he, hj, rfl, .inr (.inr (by simp))⟩, hup, fun x hx => List.mem_append.2 (.inl hx)⟩
        · intro i a ha h hlt
          by_cases c : vr a = vr e
          · have := hone i a ha c; subst this; simp
          · simp only at h
            rw [upN_ne _ _ c] at h; exact List.mem_append.2 (.inl (d.m1 i a ha h hlt))
        · intro x hx
          rcases List.mem_append.1 hx with c | c
          · exact d.ot x c
          · rw [List.mem_singleton] at c
            have := cx.top e (List.mem_of_getElem? he)
            exact ⟨j, e, he, c, by omega, by omega⟩
        · have := d.op
          simp only
          rw [cnt_out (fun a ha hg c => ?_), this]
          obtain ⟨i, hi⟩ := List.mem_iff_getElem?.1 (List.mem_of_mem_take ha)
          have := hone i a hi c
          subst this
          exact hl hg

theorem Di.meets (cx : Cx n lev L cls) {q : Nat} {k : Int} : ∀ (c : List Int) (s : PS), Di L lev q k s → (∀ y ∈ c, ∃ (j : Nat) (e : E), L[j]? = some e ∧ j < q ∧ y = U.notF e.l) →
    ∃ s', meetsP L lev s c = (true, s') ∧ Di L lev q k s' ∧ (∀ y ∈ c, Cov L lev q s' y) ∧ Up s s' := by
  intro c
  induction c with
  | nil => intro s d _; exact ⟨s, rfl, d, by simp, Up.refl s⟩
  | cons x c ih =>
    intro s d hc
    obtain ⟨j, e, he, hj, rfl⟩ := hc x (by simp)
    obtain ⟨s1, e1, d1, c1, u1⟩ := d.meet cx he hj
    obtain ⟨s2, e2, d2, c2, u2⟩ := ih s1 d1 (fun y hy => hc y (by simp [hy]))
    refine ⟨s2, ?_, d2, ?_, u1.trans u2⟩
    · simp only [meetsP]
      rw [e1, if_pos rfl]; exact e2
    · intro y hy
      rcases List.mem_cons.1 hy with rfl | hy
      · exact c1.up u2
      · exact c2 y hy

/-- What is met, and left, is enough. -/
def Nb (L : List E) (lev : Nat) (cls : List (List Int)) (q : Nat) (s : PS) : Prop :=
  ∀ A : List Int, (∀ x ∈ s.oth, U.Der cls A (U.notF x)) → (∀ (j : Nat) (e : E), j < q → L[j]? = some e → e.g = lev → s.mrk (vr e) = 1 → U.Der cls A e.l) → (∀ e ∈ L, e.g = 0 → U.Der cls A e.l) → U.Bad cls A

theorem Cov.der {q : Nat} {s : PS} {y : Int} (h : Cov L lev q s y) {A : List Int} (h1 : ∀ x ∈ s.oth, U.Der cls A (U.notF x)) (h2 : ∀ (j : Nat) (e : E), j < q → L[j]? = some e → e.g = lev → s.mrk (vr e) = 1 → U.Der cls A e.l) (h3 : ∀ e ∈ L, e.g = 0 → U.Der cls A e.l) : U.Der cls A (U.notF y) := by
  obtain ⟨j, e, he, hj, rfl, h4⟩ := h
  rcases h4 with h4 | ⟨h4, h5⟩ | h4
  · rw [U.not_not (by omega)]; exact h3 e (List.mem_of_getElem? he) h4
  · rw [U.not_not (by omega)]; exact h2 j e hj he h4 h5
  · exact h1 _ h4

theorem take_last {q : Nat} {e : E} (he : L[q]? = some e) : L.take (q + 1) = L.take q ++ [e] := by
  rw [List.take_add_one, he]; rfl

theorem down_ok (cx : Cx n lev L cls) (hl1 : 1 ≤ lev) : ∀ (q : Nat) (s : PS), q ≤ L.length → Di L lev q 0 s → Nb L lev cls q s → 1 ≤ s.op →
    ∃ (j : Nat) (e : E) (s' : PS), j < q ∧ L[j]? = some e ∧ e.g = lev ∧ downsP L lev cls s ((L.take q).reverse.map E.l) = .inr (some (e.l, s')) ∧ (∀ x ∈ s'.oth, ∃ (j : Nat) (e : E), L[j]? = some e ∧ x = U.notF e.l ∧ 1 ≤ e.g ∧ e.g < lev) ∧
      ∀ A : List Int, (∀ x ∈ s'.oth, U.Der cls A (U.notF x)) → U.Der cls A e.l → (∀ e ∈ L, e.g = 0 → U.Der cls A e.l) → U.Bad cls A := by
  intro q
  induction q with
  | zero =>
    intro s _ d _ h
    have := d.op
    simp [cntQ] at this
    omega
  | succ q ih =>
    intro s hq d nb h1
    obtain ⟨e, he⟩ : ∃ e, L[q]? = some e := ⟨_, List.getElem?_eq_getElem (by omega)⟩
    have ht := take_last he
    have hop := d.op
    have heg : e.g = lev := by
      obtain ⟨a, ha, hg, _⟩ := cnt_has (mk := s.mrk) (lev := lev) (M := L.take (q + 1)) (by omega)
      obtain ⟨i, hi⟩ := List.mem_iff_getElem?.1 ha
      have hil := (List.getElem?_eq_some_iff.1 hi).1
      rw [List.length_take] at hil
      rw [List.getElem?_take_of_lt (by omega)] at hi
      have h3 := cx.mono i q a e (by omega) hi he
      have h4 := cx.top e (List.mem_of_getElem? he)
      omega
    have hv : (e.l / 2 : Nat) = vr e := rfl
    have hnot : ∀ a ∈ L.take q, a.g = lev → vr a ≠ vr e := fun a ha _ c => by
      obtain ⟨i, hi⟩ := List.mem_iff_getElem?.1 ha
      have hil := (List.getElem?_eq_some_iff.1 hi).1
      rw [List.length_take] at hil
      rw [List.getElem?_take_of_lt (by omega)] at hi
      have := nd_one cx.nd hi he c
      omega
    have hcnt : cntQ s.mrk lev (L.take (q + 1)) = cntQ s.mrk lev (L.take q) + (if s.mrk (vr e) = 1 then 1 else 0) := by
      rw [ht]
      unfold cntQ
      rw [List.countP_append]
      simp [List.countP_cons, heg]
    have hpm : (passP s e.l).mrk = upN s.mrk (vr e) 2 := rfl
    have hpc : cntQ (passP s e.l).mrk lev (L.take q) = cntQ s.mrk lev (L.take q) := cnt_out hnot
    have hp2 : ∀ (j : Nat) (a : E), L[j]? = some a → (passP s e.l).mrk (vr a) = 2 → q ≤ j := fun j a ha h => by
      rw [hpm] at h
      by_cases c : vr a = vr e
      · have := nd_one cx.nd ha he c; omega
      · rw [upN_ne _ _ c] at h; have := d.m2 j a ha h; omega
    have hp1 : ∀ (v : Nat), (passP s e.l).mrk v = 1 → s.mrk v = 1 ∧ v ≠ vr e := fun v h => by
      rw [hpm] at h
      by_cases c : v = vr e
      · rw [c, upN_same] at h; omega
      · rw [upN_ne _ _ c] at h; exact ⟨h, c⟩
    have hlist : (L.take (q + 1)).reverse.map E.l = e.l :: (L.take q).reverse.map E.l := by rw [ht]; simp
    rw [hlist]
    simp only [downsP, downP]
    rw [hv, level_of cx.nd he, heg, if_pos rfl]
    by_cases hm : s.mrk (vr e) = 1
    · rw [if_pos hm] at hcnt ⊢
      by_cases ho : s.op = 1
      · rw [if_pos ho]
        refine ⟨q, e, passP s e.l, by omega, he, heg, rfl, d.ot, fun A a1 a2 a3 => nb A a1 (fun j a hj ha hg hk => ?_) a3⟩
        by_cases c : j = q
        · subst c; rw [he] at ha; cases ha; exact a2
        · exfalso
          have := cnt_mem (mk := s.mrk) (mem_take ha (show j < q by omega)) hg hk
          omega
      · rw [if_neg ho]
        obtain ⟨a0, ha0, hg0, hk0⟩ := cnt_has (mk := s.mrk) (lev := lev) (M := L.take q) (by omega)
        have hr : 0 ≤ e.r := by
          by_cases c : 0 ≤ e.r
          · exact c
          · obtain ⟨i, hi⟩ := List.mem_iff_getElem?.1 ha0
            have hil := (List.getElem?_eq_some_iff.1 hi).1
            rw [List.length_take] at hil
            rw [List.getElem?_take_of_lt (by omega)] at hi
            have := (cx.dc q e he (by omega)).2 i a0 (by omega) hi
            omega
        obtain ⟨c, cl, r1, r2, r3, r4⟩ := cx.rs q e he hr
        have hcl : clF cls (reasonF L ((e.l / 2 : Nat) : Int)) = some cl := by
          rw [hv, reason_of cx.nd he, r1]
          unfold clF
          rw [if_neg (by omega)]
          simpa using r2
        have dp : Di L lev q 1 (passP s e.l) := ⟨hp2, fun j a ha h hlt => d.m1 j a ha (hp1 _ h).1 hlt, d.ot, by rw [hpc]; show s.op = _; omega⟩
        obtain ⟨s3, e3, d3, c3, u3⟩ := dp.meets cx (cl.filter (fun y => decide (y ≠ (e.l : Int)))) _ (fun y hy => by
          rw [List.mem_filter] at hy
          obtain ⟨y0, r, hr1, hr2⟩ := r4 y hy.1 (by simpa using hy.2)
          obtain ⟨a, ha, hal⟩ := lits_at.1 hr2
          exact ⟨r, a, ha, hr1, by rw [hal, U.not_not y0]⟩)
        have hrp : replP L lev cls (passP s e.l) e.l = (true, { s3 with op := s3.op - 1 }) := by
          unfold replP
          rw [hcl]
          simp only
          rw [e3, if_pos rfl]
          simp [r3]
        rw [hrp]
        simp only [if_true]
        have hk3 : s3.mrk (vr a0) = 1 := u3.1 _ (by rw [hpm, upN_ne _ _ (hnot a0 ha0 hg0)]; exact hk0)
        have hop3 := d3.op
        have hc3 := cnt_mem (mk := s3.mrk) ha0 hg0 hk3
        obtain ⟨j, a, s', j1, j2, j3, j4, j5, j6⟩ := ih { s3 with op := s3.op - 1 } (by omega) ⟨d3.m2, d3.m1, d3.ot, by simp only; omega⟩ (fun A a1 a2 a3 => by
          refine nb A (fun x hx => a1 x (u3.2 x hx)) (fun j a hj ha hg hk => ?_) a3
          by_cases c : j = q
          · subst c
            rw [he] at ha
            cases ha
            refine U.Der.unit (List.mem_of_getElem? r2) r3 (by omega) (fun y hy y0 hne => ?_)
            exact Cov.der (s := s3) (c3 y (List.mem_filter.2 ⟨hy, by simpa using hne⟩)) a1 a2 a3
          · exact a2 j a (by omega) ha hg (u3.1 _ (by rw [hpm, upN_ne _ _ (hnot a (mem_take ha (by omega)) hg)]; exact hk))) (by simp only; omega)
        exact ⟨j, a, s', by omega, j2, j3, j4, j5, j6⟩
    · rw [if_neg hm]
      rw [if_neg hm] at hcnt
      simp only
      obtain ⟨j, a, s', j1, j2, j3, j4, j5, j6⟩ := ih (passP s e.l) (by omega) ⟨hp2, fun j a ha h hlt => d.m1 j a ha (hp1 _ h).1 hlt, d.ot, by rw [hpc]; show s.op = _; omega⟩ (fun A a1 a2 a3 => by
        refine nb A a1 (fun j a hj ha hg hk => ?_) a3
        by_cases c : j = q
        · subst c; rw [he] at ha; cases ha; exact absurd hk hm
        · exact a2 j a (by omega) ha hg (by rw [hpm, upN_ne _ _ (hnot a (mem_take ha (by omega)) hg)]; exact hk)) (by show 1 ≤ s.op; exact h1)
      exact ⟨j, a, s', by omega, j2, j3, j4, j5, j6⟩

/-- A conflict of the level teaches. -/
theorem learn_ok (cx : Cx n lev L cls) (hl1 : 1 ≤ lev) {c : Nat} {cl : List Int} (hc : cls[c]? = some cl) (hv : ∀ y ∈ cl, valueF L y = -1) (hx : ∃ y ∈ cl, levelF L (vl y) = lev) :
    ∃ (j : Nat) (e : E) (s' : PS), L[j]? = some e ∧ e.g = lev ∧ learnP L lev cls c = some (e.l, s') ∧ (∀ x ∈ s'.oth, ∃ (j : Nat) (e : E), L[j]? = some e ∧ x = U.notF e.l ∧ 1 ≤ e.g ∧ e.g < lev) ∧
      ∀ A : List Int, (∀ x ∈ s'.oth, U.Der cls A (U.notF x)) → U.Der cls A e.l → (∀ e ∈ L, e.g = 0 → U.Der cls A e.l) → U.Bad cls A := by
  have hall : ∀ y ∈ cl, ∃ (j : Nat) (e : E), L[j]? = some e ∧ j < L.length ∧ y = U.notF e.l := fun y hy => by
    obtain ⟨_, y0, q, hq⟩ := val_neg (L := L) (x := y) (by rw [hv y hy]; omega)
    obtain ⟨e, he, h1⟩ := lits_at.1 hq
    exact ⟨q, e, he, (List.getElem?_eq_some_iff.1 he).1, by rw [h1, U.not_not y0]⟩
  have d0 : Di L lev L.length 0 zeroP := ⟨fun j e _ h => by simp [zeroP] at h, fun j e _ h => by simp [zeroP] at h, fun x hx => by simp [zeroP] at hx, by simp [zeroP, cntQ]⟩
  obtain ⟨s1, e1, d1, c1, u1⟩ := d0.meets cx cl zeroP hall
  have hcl : clF cls (c : Int) = some cl := by
    unfold clF
    rw [if_neg (by omega)]
    simpa using hc
  obtain ⟨y, hy, hyl⟩ := hx
  have hop : 1 ≤ s1.op := by
    obtain ⟨j, e, he, hj, rfl, h4⟩ := c1 y hy
    rw [vl_lit, level_of cx.nd he] at hyl
    have h5 := d1.op
    rw [List.take_length] at h5
    have hm : s1.mrk (vr e) = 1 := by
      rcases h4 with h4 | ⟨_, h4⟩ | h4
      · omega
      · exact h4
      · obtain ⟨i, a, ha, h6, h7, h8⟩ := d1.ot _ h4
        have : e.l = a.l := by
          have h9 := congrArg U.notF h6
          rw [U.not_not (by omega), U.not_not (by omega)] at h9
          omega
        have := nd_one cx.nd he ha (by unfold vr; rw [this])
        subst this
        rw [he] at ha
        cases ha
        omega
    have := cnt_mem (mk := s1.mrk) (List.mem_of_getElem? he) (show e.g = lev by omega) hm
    omega
  obtain ⟨j, e, s', j1, j2, j3, j4, j5, j6⟩ := down_ok cx hl1 L.length s1 (Nat.le_refl _) d1 (fun A a1 a2 a3 => .inr ⟨cl, List.mem_of_getElem? hc, fun y hy _ => Cov.der (c1 y hy) a1 a2 a3⟩) hop
  refine ⟨j, e, s', j2, j3, ?_, j5, j6⟩
  unfold learnP
  rw [if_neg (by omega), hcl]
  simp only
  rw [e1, if_pos rfl]
  rw [List.take_length] at j4
  simp only
  rw [j4]
  rfl

/-- What was learned at level 0 follows. -/
theorem der_zero (cx : Cx n lev L cls) (A : List Int) : ∀ (q : Nat) (e : E), L[q]? = some e → e.g = 0 → U.Der cls A e.l := by
  intro q
  induction q using Nat.strongRecOn with
  | _ q ih =>
    intro e he hg
    have hr : 0 ≤ e.r := by
      by_cases c : 0 ≤ e.r
      · exact c
      · have := (cx.dc q e he (by omega)).1; omega
    obtain ⟨c, cl, r1, r2, r3, r4⟩ := cx.rs q e he hr
    refine U.Der.unit (List.mem_of_getElem? r2) r3 (by omega) (fun y hy y0 hne => ?_)
    obtain ⟨_, r, hr1, hr2⟩ := r4 y hy hne
    obtain ⟨a, ha, hal⟩ := lits_at.1 hr2
    rw [← hal]
    exact ih r hr1 a ha (by have := cx.mono r q a e (by omega) ha he; omega)
end

end Go.Proofs.YtimfjoinjfecjaaGreat
