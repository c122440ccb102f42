/-
  The document's Step; few clauses.
  What a solver keeps, plainly: what is learned; what stands at a level.
  assign, follow: a literal holds for a clause.
  stands, two, seek: which literals of a clause may hold.
-/
import Derived.Test.YtimfjoinjfecjaaGreatG17
import Derived.Test.YtimfjoinjfecjaaGreatG16
import Derived.Test.YtimfjoinjfecjaaGreatG07

namespace Go.Proofs.YtimfjoinjfecjaaGreat.U
open Go.RowKit
set_option linter.unusedVariables false

theorem map_next {c : List Int} {k : Nat} {y : Int} (h : c[k]? = some y) : (c.take (k + 1)).map notF = (c.take k).map notF ++ [notF y] := by
  rw [List.take_add_one, h]; simp

theorem fit_not {x : Int} (h0 : -9223372036854775808 ≤ x) (h1 : x ≤ 9223372036854775807) : -9223372036854775808 ≤ notF x ∧ notF x ≤ 9223372036854775807 := by
  by_cases h : 0 ≤ x
  · exact ⟨by have := not_pos h; omega, not_max h h1⟩
  · rw [not_neg (by omega)]; exact ⟨h0, h1⟩

theorem res_iff {L : List (List Int)} {S xs : List Int} {ok : Bool} (h : Res L S xs ok) : ok = false ↔ Bad L S := by
  rcases h with ⟨rfl, _, h⟩ | ⟨rfl, h, _⟩
  · exact ⟨fun _ => h, fun _ => rfl⟩
  · exact ⟨fun e => (by cases e), fun g => absurd g h⟩

theorem rclose_b (w : World) (la : Option Addr) (n cap : Nat) (L : List (List Int)) (gr : Grid w la n cap L) (sa : Option Addr) (sn scap : Nat) (S : List Int) (hr : Row w sa sn scap S) (hn : n ≤ 500) (hs : sn ≤ 1000) (hl : ∀ c ∈ L, c.length ≤ 100) :
    Calls Tryz.prog 67 #[.slice la n cap, .slice sa sn scap] w fun e w' => ∃ (ao : Option Addr) (m c : Nat) (ok : Bool), e = .returned (.tuple #[.slice ao m c, .bool ok]) ∧ Hid (ok = false ↔ Bad L S) ∧ Hid (Below w.heap.size w w') := by
  refine (rclose_any w la n cap L gr sa sn scap S hr hn hs hl).mono fun e w' he => ?_
  obtain ⟨ao, m, c, xs, ok, h1, h2, h3, h4⟩ := he
  exact ⟨ao, m, c, ok, h1, res_iff h3, h4⟩

theorem flip_iff {ok : Bool} {p : Prop} (h : ok = false ↔ p) : (!ok) = true ↔ p := by
  rw [← h]; cases ok <;> simp

/-- A clause follows at once. -/
def Stp (L : List (List Int)) (c : List Int) : Prop := Bad L (c.map notF)

set_option maxHeartbeats 1000000 in
theorem rstep_any (w : World) (la : Option Addr) (n cap : Nat) (L : List (List Int)) (gr : Grid w la n cap L) (ca : Option Addr) (m ccap : Nat) (c : List Int) (hr : Row w ca m ccap c) (hm : m ≤ 1000) (hn : n ≤ 500) (hl : ∀ c ∈ L, c.length ≤ 100) :
    Calls Tryz.prog 39 #[.slice la n cap, .slice ca m ccap] w fun e w' => ∃ b : Bool, e = .returned (.bool b) ∧ Hid (b = true ↔ Stp L c) ∧ Hid (Below w.heap.size w w') := by
  have HR := hid hr
  have HG := hid gr
  have HL := hid hl
  clear hr gr hl
  go_enter Tryz.func39, Tryz.ntmps39
  go_wp2
  go_loopw [5, 6] (fun v i wr => ∃ q : Nat, q ≤ m ∧ i = .int .i64 q ∧ Hid (Own wr w.heap.size v ((c.take q).map notF)) ∧ Hid (Below w.heap.size w wr)) (fun _ i _ => m - (intOf i).toNat)
  case atStart => exact ⟨0, Nat.zero_le _, rfl, Own.nil _ _, Below.refl _ _⟩
  case round =>
    obtain ⟨q, hq, rfl, hown, hb⟩ := hrel
    by_cases hlt : q < m
    · obtain ⟨b, off, y, rfl, hc, hy, y0, y1⟩ := (HR.out.keep hb.out).at hlt
      have HE := hid (map_next hy.out)
      have HY := hid (fit_not y0 y1)
      have hql : ((c.take q).map notF).length ≤ 1000 := by rw [List.length_map, List.length_take]; omega
      go_wp2_with (first
        | (go_at_call 66; with_reducible (refine (rnot_any _ _ y1).mono ?_); rintro e w1 ⟨rfl, rfl⟩)
        | (at_builtin; refine append_ints rfl (.tmp 15) (.tmp 21) rfl w.heap.size _ _ [notF y] rfl (hown.out.alloc _) _ 1 1 rfl (row_one _ _ HY.out.1 HY.out.2) (by omega) (by have := hb.out.size; simp; omega) ?_; intro v2 w2 own2 hb3))
      go_roundw
      case rel => exact ⟨q + 1, by omega, by go_num, hid (by rw [HE.out]; exact own2.out), hid ((hb.out.alloc hb.out.size _).trans hb3.out)⟩
      case measure => simp only [intOf]; omega
    · have HV : Hid (c.take q = c) := hid (List.take_of_length_le (by rw [HR.out.1]; omega))
      obtain ⟨ao, k, c2, rfl, hrow⟩ := hown.out.shape
      have hrow2 : Hid (Row wr ao k c2 (c.map notF)) := hid (by rw [← HV.out]; exact hrow.out)
      have hk : k ≤ 1000 := by
        have := hrow2.out.1
        have h2 := HR.out.1
        simp at this; omega
      clear hrow hown
      go_wp2_with (go_at_call 67; with_reducible (refine (rclose_b _ la n cap L (HG.out.keep hb.out) ao k c2 _ hrow2.out hn hk HL.out).mono ?_); rintro e w2 ⟨ao3, m3, c3, ok, rfl, hiff, hb2⟩)
      go_ret
      exact ⟨_, rfl, flip_iff hiff.out, Below.next hb.out hb2.out⟩

def longF (xs : List Int) : Bool := decide (40 < xs.length)

def fewF (xss : List (List Int)) (most : Int) : Int := if most < xss.length then 0 else if xss.any longF = true then 0 else 1

theorem few_any (ao : Option Addr) (n cap : Nat) (xss : List (List Int)) (most : Int) (w : World) (h : Grid w ao n cap xss) :
    Calls Tryz.prog 7 #[.slice ao n cap, .int .i64 most] w fun e w' => e = .returned (.int .i64 (fewF xss most)) ∧ w' = w := by
  have HR : Hid (Grid w ao n cap xss) := h
  have hm := h.max
  have hl := h.1
  clear h
  by_cases hb : most < n
  · have HV : Hid (fewF xss most = 0) := by show _ = _; simp only [fewF]; rw [if_pos (by omega)]
    clear hl
    go_enter Tryz.func7, Tryz.ntmps7
    go_wp2
    go_ret
    exact ⟨by rw [HV.out]; rfl, rfl⟩
  · have HV : Hid (fewF xss most = if xss.any longF = true then 0 else 1) := by show _ = _; simp only [fewF]; rw [if_neg (by omega)]
    clear hl
    go_enter Tryz.func7, Tryz.ntmps7
    go_wp2
    go_loop [5] (fun i => ∃ k : Nat, k ≤ n ∧ i = .int .i64 k ∧ Hid ((xss.take k).any longF = false)) (fun i => n - (intOf i).toNat)
    case atStart => exact ⟨0, Nat.zero_le _, rfl, rfl⟩
    case round =>
      obtain ⟨k, hk, rfl, hno⟩ := hrel
      by_cases hlt : k < n
      · obtain ⟨b, off, a, m, c, ys, rfl, hc, hy, hr⟩ := HR.out.at hlt
        have hm2 := hr.out.max
        by_cases he : 40 < m
        · have HW : Hid (fewF xss most = 0) := by
            show _ = _; rw [HV.out, if_pos (gany_hit hy.out (by simp only [longF, decide_eq_true_eq]; rw [hr.out.1]; exact he))]
          have he' : (40 : Int) < m := by omega
          go_wp2
          go_ret
          exact ⟨by rw [HW.out]; rfl, rfl⟩
        · have HW : Hid ((xss.take (k + 1)).any longF = false) := gany_step hno.out hy.out (by simp only [longF, decide_eq_false_iff_not]; rw [hr.out.1]; exact he)
          have he' : ¬ (40 : Int) < m := by omega
          go_wp2
          go_round
          case rel => exact ⟨k + 1, by omega, by go_num, HW⟩
          case measure => simp [intOf]; omega
      · have HW : Hid (fewF xss most = 1) := by
          have := gany_end hno.out (by rw [HR.out.1]; omega)
          show _ = _; rw [HV.out, this]; rfl
        go_wp2
        go_ret
        exact ⟨by rw [HW.out]; rfl, rfl⟩

theorem few_len {xss : List (List Int)} {most : Nat} (h : ¬ fewF xss most = 0) : xss.length ≤ most := by
  by_cases hl : (most : Int) < xss.length
  · exact absurd (by simp only [fewF]; rw [if_pos hl]) h
  · omega

theorem few_short {xss : List (List Int)} {most : Int} (h : ¬ fewF xss most = 0) : ∀ c ∈ xss, c.length ≤ 40 := by
  intro c hc
  by_cases h1 : most < xss.length
  · exact absurd (by simp only [fewF]; rw [if_pos h1]) h
  · cases h2 : xss.any longF
    · have := List.any_eq_false.1 h2 c hc
      simp [longF] at this; omega
    · exact absurd (by simp only [fewF]; rw [if_neg h1, if_pos h2]) h


end Go.Proofs.YtimfjoinjfecjaaGreat.U

namespace Go.Proofs.YtimfjoinjfecjaaGreat
open Go.RowKit
set_option linter.unusedVariables false

section
variable {k : K} {w : World} {L : List E} {lev : Nat} {p : V} {cls : List (List Int)}

/-- What holds along a trail whose literals were decided, or follow. -/
structure Tl (L : List E) (cls : List (List Int)) : Prop where
  rs : ∀ (q : Nat) (e : E), L[q]? = some e → 0 ≤ e.r → ∃ (c : Nat) (cl : List Int), e.r = c ∧ cls[c]? = some cl ∧ (e.l : Int) ∈ cl ∧ ∀ y ∈ cl, y ≠ e.l → 0 ≤ y ∧ ∃ r : Nat, r < q ∧ (litsF L)[r]? = some (U.notF y)
  dc : ∀ (q : Nat) (e : E), L[q]? = some e → e.r < 0 → 1 ≤ e.g ∧ ∀ (q' : Nat) (e' : E), q' < q → L[q']? = some e' → e'.g < e.g

theorem Trl.mono (t : Trl k w L lev p) : (∀ (j j' : Nat) (e e' : E), j ≤ j' → L[j]? = some e → L[j']? = some e' → e.g ≤ e'.g) ∧ ∀ e ∈ L, e.g ≤ lev := by
  obtain ⟨F, S, s, g, rfl⟩ := t
  refine ⟨fun j j' e e' hj he he' => ?_, g.lv⟩
  by_cases c : e.g ≤ e'.g
  · exact c
  · exfalso
    have h1 := g.lv e (List.mem_of_getElem? he)
    obtain ⟨s0, hs⟩ : ∃ s0, S[e'.g]? = some s0 := ⟨_, List.getElem?_eq_getElem (by omega)⟩
    obtain ⟨_, _, h4⟩ := g.cut e'.g s0 hs
    have h5 := (h4 j' e' he').1 (Nat.le_refl _)
    have h6 := (h4 j e he).2 (by omega)
    omega

theorem Trl.cx (t : Trl k w L lev p) (h : Tl L cls) : Cx k.n lev L cls := ⟨t.nd, t.lits_lt, t.mono.1, t.mono.2, h.rs, h.dc⟩

theorem val_take (hnd : ND L) {j s : Nat} {e : E} (he : L[j]? = some e) : (j < s → valueF (L.take s) (U.notF e.l) = -1) ∧ (s ≤ j → valueF (L.take s) (U.notF e.l) = 0) := by
  have h0 : (0 : Int) ≤ U.notF e.l := by
    unfold U.notF
    rw [if_neg (by omega)]
    split <;> omega
  refine ⟨fun hj => val_of (take_nd hnd s) (by rw [List.getElem?_take_of_lt hj]; exact he), fun hj => ?_⟩
  have hv : ((U.notF e.l) / 2 : Int) = (vr e : Int) := by
    unfold U.notF vr
    rw [if_neg (by omega)]
    split <;> omega
  unfold valueF
  rw [if_neg (by omega), hv, at_none.2]
  intro a ha hc
  obtain ⟨i, hi⟩ := List.mem_iff_getElem?.1 ha
  have hil := (List.getElem?_eq_some_iff.1 hi).1
  rw [List.length_take] at hil
  rw [List.getElem?_take_of_lt (by omega)] at hi
  have := nd_one hnd hi he (by omega)
  omega

/-- Behind Back. -/
theorem Trl.backs (t : Trl k w L lev p) {b : Nat} (hb : b < lev) {j : Nat} {e : E} (he : L[j]? = some e) : (e.g ≤ b → valueF (backL L lev b) (U.notF e.l) = -1) ∧ (b < e.g → valueF (backL L lev b) (U.notF e.l) = 0) := by
  have hnd := t.nd
  obtain ⟨F, S, s, g, rfl⟩ := t
  obtain ⟨s0, hs⟩ : ∃ s0, S[b]? = some s0 := ⟨_, List.getElem?_eq_getElem hb⟩
  rw [(g.back_yes hs).1]
  obtain ⟨_, _, h4⟩ := g.cut b s0 hs
  have h5 := h4 j e he
  obtain ⟨v1, v2⟩ := val_take (s := s0) hnd he
  exact ⟨fun h => v1 (h5.1 h), fun h => v2 (by
    by_cases c : j < s0
    · have := h5.2 c; omega
    · omega)⟩

/-- All that is asked of what is learned. -/
structure Lf (n : Nat) (L : List E) (lev : Nat) (cls : List (List Int)) (x : Nat) (es : List Int) (b : Nat) : Prop where
  bk : backF L es = b
  lt : b < lev
  stp : U.Stp cls (U.notF x :: es)
  v0 : valueF L (U.notF x) = -1
  l0 : levelF L (vl (U.notF x) : Nat) = lev
  vs : ∀ y ∈ es, valueF L y = -1 ∧ ∃ ll : Nat, levelF L (vl y : Nat) = ll ∧ 1 ≤ ll ∧ ll ≤ b
  w0 : valueF (backL L lev b) (U.notF x) = 0
  ws : ∀ y ∈ es, valueF (backL L lev b) y = -1
  nn : ∀ y ∈ U.notF x :: es, 0 ≤ y ∧ y < 2 * (n : Int)
  at_ : ∀ y ∈ U.notF x :: es, ∃ (j : Nat) (e : E), L[j]? = some e ∧ y = U.notF e.l ∧ 1 ≤ e.g
  x0 : ∃ (j : Nat) (e : E), L[j]? = some e ∧ e.l = x ∧ e.g = lev
  e0 : es = [] ∨ ∃ y ∈ es, ∃ (j : Nat) (e : E), L[j]? = some e ∧ y = U.notF e.l ∧ e.g = b

theorem learn_facts (t : Trl k w L lev p) (h : Tl L cls) (hl1 : 1 ≤ lev) {c : Nat} {cl : List Int} (hc : cls[c]? = some cl) (hv : ∀ y ∈ cl, valueF L y = -1) (hx : ∃ y ∈ cl, levelF L (vl y : Nat) = lev) :
    ∃ x s1, learnP L lev cls c = some (x, s1) ∧ ∀ es : List Int, es.Perm s1.oth → Fall L es → ∃ b, Lf k.n L lev cls x es b := by
  have cx := t.cx h
  have hkn := t.len
  obtain ⟨j, e, s1, j1, j2, j3, j4, j5⟩ := learn_ok cx hl1 hc hv hx
  refine ⟨e.l, s1, j3, fun es hp hf => ?_⟩
  have hmem : ∀ y ∈ es, ∃ (j : Nat) (e : E), L[j]? = some e ∧ y = U.notF e.l ∧ 1 ≤ e.g ∧ e.g < lev := fun y hy => j4 y (hp.mem_iff.1 hy)
  have hlv : ∀ (i : Nat) (a : E), L[i]? = some a → levelF L (vl (U.notF a.l) : Nat) = a.g := fun i a ha => by rw [vl_lit, level_of cx.nd ha]
  obtain ⟨b, hb, hblt⟩ : ∃ b : Nat, backF L es = b ∧ b < lev := by
    cases es with
    | nil => exact ⟨0, rfl, by omega⟩
    | cons y es =>
      obtain ⟨i, a, ha, rfl, h1, h2⟩ := hmem y (by simp)
      exact ⟨a.g, hlv i a ha, h2⟩
  have hle : ∀ y ∈ es, ∀ (i : Nat) (a : E), L[i]? = some a → y = U.notF a.l → a.g ≤ b := by
    intro y hy i a ha hya
    cases es with
    | nil => cases hy
    | cons y0 es =>
      have h0 : levelF L (vl y0 : Nat) = b := hb
      have h1 : levelF L (vl y : Nat) = a.g := by rw [hya]; exact hlv i a ha
      rcases List.mem_cons.1 hy with rfl | hy
      · omega
      · have := (List.pairwise_cons.1 hf).1 y hy
        omega
  have hpos : ∀ (a : E), vr a < k.n → (0 : Int) ≤ U.notF a.l ∧ U.notF a.l < 2 * (k.n : Int) := fun a ha => by
    unfold vr at ha
    unfold U.notF
    rw [if_neg (by omega)]
    split <;> omega
  refine ⟨b, hb, hblt, ?_, val_of cx.nd j1, by rw [hlv j e j1, j2], fun y hy => ?_, (t.backs hblt j1).2 (by omega), fun y hy => ?_, fun y hy => ?_, fun y hy => ?_, ⟨j, e, j1, rfl, j2⟩, ?_⟩
  · refine j5 ((U.notF e.l :: es).map U.notF) (fun x hx => ?_) ?_ (fun a ha hg => ?_)
    · obtain ⟨i, a, ha, rfl, _⟩ := j4 x hx
      have hp0 := hpos a (cx.lt a (List.mem_of_getElem? ha))
      refine U.Der.base (List.mem_map.2 ⟨_, List.mem_cons_of_mem _ (hp.mem_iff.2 hx), rfl⟩) ?_
      rw [U.not_not (by omega)]; omega
    · refine U.Der.base (List.mem_map.2 ⟨_, List.mem_cons_self, ?_⟩) (by omega)
      rw [U.not_not (by omega)]
    · obtain ⟨i, hi⟩ := List.mem_iff_getElem?.1 ha
      exact der_zero cx _ i a hi hg
  · obtain ⟨i, a, ha, rfl, h1, h2⟩ := hmem y hy
    exact ⟨val_of cx.nd ha, a.g, hlv i a ha, h1, hle _ hy i a ha rfl⟩
  · obtain ⟨i, a, ha, rfl, h1, h2⟩ := hmem y hy
    exact (t.backs hblt ha).1 (hle _ hy i a ha rfl)
  · rcases List.mem_cons.1 hy with rfl | hy
    · exact hpos e (cx.lt e (List.mem_of_getElem? j1))
    · obtain ⟨i, a, ha, rfl, h1, h2⟩ := hmem y hy
      exact hpos a (cx.lt a (List.mem_of_getElem? ha))
  · rcases List.mem_cons.1 hy with rfl | hy
    · exact ⟨j, e, j1, rfl, by omega⟩
    · obtain ⟨i, a, ha, rfl, h1, h2⟩ := hmem y hy
      exact ⟨i, a, ha, rfl, h1⟩
  · cases es with
    | nil => exact .inl rfl
    | cons y es =>
      obtain ⟨i, a, ha, rfl, h1, h2⟩ := hmem y (by simp)
      refine .inr ⟨_, List.mem_cons_self, i, a, ha, rfl, ?_⟩
      have h3 : levelF L (vl (U.notF a.l) : Nat) = b := hb
      rw [hlv i a ha] at h3
      omega
end


/-! ### What stands at a level -/
def pre (L : List E) (v : Nat) : List E := L.filter (fun e => decide (e.g ≤ v))

theorem pre_take : ∀ {L : List E} {s v : Nat}, (∀ (j : Nat) (e : E), L[j]? = some e → (e.g ≤ v ↔ j < s)) → L.take s = pre L v := by
  intro L
  induction L with
  | nil => intro s v _; simp [pre]
  | cons a L ih =>
    intro s v h
    have h0 := h 0 a rfl
    cases s with
    | zero =>
      have : pre (a :: L) v = [] := by
        unfold pre
        rw [List.filter_eq_nil_iff]
        intro e he
        obtain ⟨j, hj⟩ := List.mem_iff_getElem?.1 he
        have := h j e hj
        simp; omega
      rw [this]; rfl
    | succ s =>
      have h1 : a.g ≤ v := h0.2 (by omega)
      have h2 := ih (s := s) (v := v) (fun j e he => by have := h (j + 1) e (by simpa using he); omega)
      rw [List.take_succ_cons, h2]
      unfold pre
      rw [List.filter_cons_of_pos (by simpa using h1)]

theorem pre_mem {L : List E} {v : Nat} {e : E} : e ∈ pre L v ↔ e ∈ L ∧ e.g ≤ v := by unfold pre; rw [List.mem_filter]; simp
theorem pre_app {L M : List E} {v : Nat} (h : ∀ e ∈ M, v < e.g) : pre (L ++ M) v = pre L v := by
  unfold pre
  rw [List.filter_append]
  have : M.filter (fun e => decide (e.g ≤ v)) = [] := by
    rw [List.filter_eq_nil_iff]
    intro e he
    have := h e he
    simp; omega
  rw [this, List.append_nil]
theorem pre_all {L : List E} {v : Nat} (h : ∀ e ∈ L, e.g ≤ v) : pre L v = L := by
  unfold pre
  rw [List.filter_eq_self]
  intro e he
  simpa using h e he
theorem pre_pre {L : List E} {v b : Nat} (h : v ≤ b) : pre (pre L b) v = pre L v := by
  unfold pre
  rw [List.filter_filter]
  congr 1
  funext e
  by_cases c : e.g ≤ v
  · simp [c]; omega
  · simp [c]
theorem pre_nd {L : List E} (h : ND L) (v : Nat) : ND (pre L v) := by
  unfold ND at h ⊢
  exact h.sublist ((List.filter_sublist).map vr)

section
variable {k : K} {w : World} {L : List E} {lev : Nat} {p : V} {cls cls' : List (List Int)}

theorem Trl.back_pre (t : Trl k w L lev p) {b : Nat} (hb : b < lev) : backL L lev b = pre L b ∧ backV lev b = b ∧ ∀ e ∈ L, b < e.g → (vr e : Int) ∈ backG L lev b := by
  obtain ⟨F, S, s, g, rfl⟩ := t
  obtain ⟨s0, hs⟩ : ∃ s0, S[b]? = some s0 := ⟨_, List.getElem?_eq_getElem hb⟩
  obtain ⟨h1, h2, h3⟩ := g.back_yes hs
  obtain ⟨_, hx, h4⟩ := g.cut b s0 hs
  refine ⟨by rw [h1, pre_take h4], h2, fun e he hl => ?_⟩
  rw [h3]
  obtain ⟨j, hj⟩ := List.mem_iff_getElem?.1 he
  have h5 := h4 j e hj
  refine List.mem_map.2 ⟨e, ?_, rfl⟩
  rw [List.mem_reverse]
  refine List.mem_iff_getElem?.2 ⟨j - s0, ?_⟩
  rw [List.getElem?_drop, show s0 + (j - s0) = j by omega]
  exact hj

theorem val_pre (hnd : ND L) {j v : Nat} {e : E} (he : L[j]? = some e) : (e.g ≤ v → valueF (pre L v) (U.notF e.l) = -1) ∧ (v < e.g → valueF (pre L v) (U.notF e.l) = 0) := by
  have h0 : (0 : Int) ≤ U.notF e.l := U.not_pos (by omega)
  refine ⟨fun hj => ?_, fun hj => ?_⟩
  · obtain ⟨i, hi⟩ := List.mem_iff_getElem?.1 (pre_mem.2 ⟨List.mem_of_getElem? he, hj⟩)
    exact val_of (pre_nd hnd v) hi
  · have hv : ((U.notF e.l) / 2 : Int) = (vr e : Int) := by
      unfold U.notF vr
      rw [if_neg (by omega)]
      split <;> omega
    unfold valueF
    rw [if_neg (by omega), hv, at_none.2]
    intro a ha hc
    obtain ⟨h1, h2⟩ := pre_mem.1 ha
    obtain ⟨i, hi⟩ := List.mem_iff_getElem?.1 h1
    have := nd_one hnd hi he (by omega)
    subst this
    rw [he] at hi
    cases hi
    omega

/-! ### Clauses that are asked for alone -/
theorem repl_congr {s : PS} {x : Nat} (h : clF cls (reasonF L ((x / 2 : Nat) : Int)) = clF cls' (reasonF L ((x / 2 : Nat) : Int))) : replP L lev cls s x = replP L lev cls' s x := by unfold replP; rw [h]

theorem downs_congr (h : ∀ v : Nat, levelF L v = lev → clF cls (reasonF L v) = clF cls' (reasonF L v)) : ∀ (r : List Nat) (s : PS), downsP L lev cls s r = downsP L lev cls' s r := by
  intro r
  induction r with
  | nil => intro s; rfl
  | cons x r ih =>
    intro s
    have e : downP L lev cls s x = downP L lev cls' s x := by
      unfold downP
      by_cases hl : levelF L ((x / 2 : Nat) : Int) = lev
      · rw [if_pos hl, if_pos hl, repl_congr (h _ hl)]
      · rw [if_neg hl, if_neg hl]
    simp only [downsP, e]
    cases downP L lev cls' s x with
    | inl s' => exact ih s'
    | inr o => rfl

theorem learn_congr (h : ∀ v : Nat, levelF L v = lev → clF cls (reasonF L v) = clF cls' (reasonF L v)) {c : Int} (hc : clF cls c = clF cls' c) : learnP L lev cls c = learnP L lev cls' c := by
  unfold learnP
  rw [hc]
  simp only [downs_congr h]

/-! ### How many literals are learned -/
def WfS (n : Nat) : Sum PS (Option (Nat × PS)) → Prop
  | .inl s => Wf n s ∧ Mk2 s
  | .inr none => True
  | .inr (some (_, s)) => Wf n s ∧ Mk2 s

theorem down_wf {n : Nat} {s : PS} (hlt : ∀ e ∈ L, vr e < n) (h : Wf n s) (h2 : Mk2 s) (x : Nat) : WfS n (downP L lev cls s x) := by
  unfold downP
  have hp := h.pass h2 x
  split
  · split
    · split
      · exact hp
      · have hr := hp.1.repl hp.2 (L := L) (lev := lev) (cls := cls) x (fun y hy => vlA_lt hlt hy)
        split
        · exact ⟨hr.1, hr.2.2⟩
        · trivial
    · exact hp
  · trivial

theorem downs_wf {n : Nat} (hlt : ∀ e ∈ L, vr e < n) : ∀ (r : List Nat) (s : PS), Wf n s → Mk2 s → WfS n (downsP L lev cls s r) := by
  intro r
  induction r with
  | nil => intro s h h2; exact ⟨h, h2⟩
  | cons x r ih =>
    intro s h h2
    have hd := down_wf (lev := lev) (cls := cls) hlt h h2 x
    simp only [downsP]
    cases e : downP L lev cls s x with
    | inl s' => rw [e] at hd; exact ih s' hd.1 hd.2
    | inr o => rw [e] at hd; exact hd

theorem learn_wf {n : Nat} (hlt : ∀ e ∈ L, vr e < n) {c : Int} {x : Nat} {s1 : PS} (h : learnP L lev cls c = some (x, s1)) : Wf n s1 := by
  unfold learnP at h
  split at h
  · cases h
  · cases hc : clF cls c with
    | none => rw [hc] at h; cases h
    | some d =>
      rw [hc] at h
      simp only at h
      split at h
      · have hm := Wf.meets (L := L) (lev := lev) d zeroP (Wf.zero n) (fun i => by simp [zeroP]) (fun x _ hx => vlA_lt hlt hx)
        have hd := downs_wf (lev := lev) (cls := cls) hlt (L.reverse.map E.l) _ hm.1 hm.2.2
        cases e : downsP L lev cls (meetsP L lev zeroP d).2 (L.reverse.map E.l) with
        | inl s' => rw [e] at h; cases h
        | inr o =>
          rw [e] at h hd
          cases o with
          | none => cases h
          | some q =>
            cases h
            exact hd.1
      · cases h
end

end Go.Proofs.YtimfjoinjfecjaaGreat

namespace Go.Proofs.YtimfjoinjfecjaaGreat
open Go.RowKit Go.Maps
set_option linter.unusedVariables false

theorem value_zero {L : List E} {m n : Nat} (hn : m / 2 < n) (h : valueF L (m : Int) = 0) : mayF n L m = true := by
  have h2 : (m : Int) / 2 = ((m / 2 : Nat) : Int) := by omega
  unfold valueF at h
  rw [if_neg (by omega), h2] at h
  unfold mayF
  rw [h2]
  cases ha : atF L ((m / 2 : Nat) : Int) with
  | none => simp; omega
  | some e =>
    rw [ha] at h
    simp only at h
    split at h <;> omega

section
variable {k : K} {kw : WK} {w : World} {g : G} {L : List E} {lev : Nat} {p : V}

theorem wassign_is (j : J k kw w g L lev p) (m u : Nat) (hm : m / 2 = u) (hu : u < kw.n) (hf : valueF L (m : Int) = 0) (r : Int) :
    Calls Tryz.prog 140 #[.pointer (some ⟨kw.OB, 0, none⟩), .pointer (some ⟨k.OB, 0, none⟩), .int .i64 m, .int .i64 r] w fun e w' => e = .returned (.tuple #[]) ∧ ∃ p', Hid (J k kw w' (g.place u L.length) (L ++ [⟨m, lev, r⟩]) lev p') ∧ Hid (FT k kw.B p p' w w') := by
  have hn := j.s.l.hn
  have hnn := j.n
  have hmu : (m : Int) ≤ 9223372036854775807 := by omega
  have hmay : mayF k.n L m = true := value_zero (by omega) hf
  have hadd : addL k.n L m lev r = L ++ [⟨m, lev, r⟩] := by unfold addL; rw [hmay]; simp
  have hll := j.t.len
  have hL1 : (L.length : Int) + 1 ≤ 9223372036854775807 := by omega
  have HM := hid hm
  have HJ := hid j
  have H1 := hid hmay
  have H2 := hid hadd
  clear hm j hmay hadd hll hf
  go_enter Tryz.func140, Tryz.ntmps140
  go_wp2_with (first
    | (go_at_call 101; with_reducible (refine (assign_is HJ.out.t m r hmu H1.out H2.out).mono ?_); rintro e w1 ⟨p1, rfl, t1, f1⟩; have j1 := hid (HJ.out.fr f1.out t1.out))
    | (go_at_call 50; with_reducible (refine (lits_is j1.out.t).mono ?_); rintro e w1 ⟨ao, rfl, hr, rfl⟩)
    | (go_at_call 76; with_reducible (refine (put_is j1.out.s m u HM.out hu L.length).mono ?_); rintro e w2 ⟨rfl, h2⟩))
  go_end0
  exact ⟨rfl, p1, hid (j1.out.fw h2.out.2 h2.out.1 rfl rfl rfl rfl), hid ((FT.fr HJ.out.t HJ.out.b f1.out).trans (FT.fw h2.out.2))⟩

theorem follow_no (j : J k kw w g L lev p) {c : Nat} (hc : c < g.nx) (a : Int) (ha : a ≤ 9223372036854775807) (hv : valueF L a = -1) :
    Calls Tryz.prog 114 #[.pointer (some ⟨kw.OB, 0, none⟩), .pointer (some ⟨k.OB, 0, none⟩), .pointer (some ⟨g.cb c, 0, none⟩), .int .i64 a] w fun e w' => e = .returned (.bool false) ∧ Hid (Below w.heap.size w w') := by
  have HJ := hid j
  have HV := hid hv
  clear j hv
  go_enter Tryz.func114, Tryz.ntmps114
  go_wp2_with (go_at_call 138; with_reducible (refine (value_is HJ.out.t a ha HV.out).mono ?_); rintro e w1 ⟨rfl, b1⟩)
  go_ret
  exact ⟨rfl, b1⟩

theorem follow_held (j : J k kw w g L lev p) {c : Nat} (hc : c < g.nx) (a : Int) (ha : a ≤ 9223372036854775807) (hv : valueF L a = 1) :
    Calls Tryz.prog 114 #[.pointer (some ⟨kw.OB, 0, none⟩), .pointer (some ⟨k.OB, 0, none⟩), .pointer (some ⟨g.cb c, 0, none⟩), .int .i64 a] w fun e w' => e = .returned (.bool true) ∧ Hid (Below w.heap.size w w') := by
  have HJ := hid j
  have HV := hid hv
  clear j hv
  go_enter Tryz.func114, Tryz.ntmps114
  go_wp2_with (go_at_call 138; with_reducible (refine (value_is HJ.out.t a ha HV.out).mono ?_); rintro e w1 ⟨rfl, b1⟩)
  go_ret
  exact ⟨rfl, b1⟩

theorem follow_new (j : J k kw w g L lev p) {c : Nat} (hc : c < g.nx) (hg : g.gn c = false) (m u : Nat) (hm : m / 2 = u) (hu : u < kw.n) (hv : valueF L (m : Int) = 0) :
    Calls Tryz.prog 114 #[.pointer (some ⟨kw.OB, 0, none⟩), .pointer (some ⟨k.OB, 0, none⟩), .pointer (some ⟨g.cb c, 0, none⟩), .int .i64 m] w fun e w' => e = .returned (.bool true) ∧ ∃ p', Hid (J k kw w' (g.place u L.length) (L ++ [⟨m, lev, c⟩]) lev p') ∧ Hid (FT k kw.B p p' w w') := by
  have hn := j.s.l.hn
  have hmu : (m : Int) ≤ 9223372036854775807 := by omega
  have HJ := hid j
  have HV := hid hv
  have HM := hid hm
  clear j hv hm
  go_enter Tryz.func114, Tryz.ntmps114
  go_wp2_with (first
    | (go_at_call 138; with_reducible (refine (value_is HJ.out.t m hmu HV.out).mono ?_); rintro e w1 ⟨rfl, b1⟩; have j1 := hid (HJ.out.below b1.out); have k0 := (j1.out.s.l.ks hc hg).1)
    | (go_at_call 140; with_reducible (refine (wassign_is j1.out m u HM.out hu HV.out c).mono ?_); rintro e w2 ⟨rfl, p2, j2, f2⟩))
  go_ret
  exact ⟨rfl, p2, j2, hid ((FT.below b1.out).trans f2.out)⟩
end

end Go.Proofs.YtimfjoinjfecjaaGreat

namespace Go.Proofs.YtimfjoinjfecjaaGreat
open Go.RowKit Go.Maps
set_option linter.unusedVariables false

def standsF (g : G) (L : List E) (c : Nat) : Bool := decide (g.a c ≠ -1 ∧ 0 ≤ valueF L (g.a c) ∧ 0 ≤ valueF L (g.b c))

def TwoR (L : List E) (xs : List Int) (a b : Int) : Prop :=
  (a = -1 ∧ b = -1 ∧ ∀ x ∈ xs, valueF L x < 0) ∨ (a ∈ xs ∧ 0 ≤ a ∧ 0 ≤ valueF L a ∧ b = -1 ∧ ∀ x ∈ xs, x ≠ a → valueF L x < 0) ∨ (a ∈ xs ∧ b ∈ xs ∧ 0 ≤ a ∧ 0 ≤ b ∧ a ≠ b ∧ 0 ≤ valueF L a ∧ 0 ≤ valueF L b)

def TwoL (L : List E) (xs : List Int) (a : Int) : Prop :=
  (a = -1 ∧ ∀ x ∈ xs, valueF L x < 0) ∨ (a ∈ xs ∧ 0 ≤ a ∧ 0 ≤ valueF L a ∧ ∀ x ∈ xs, x ≠ a → valueF L x < 0)

def SeekR (L : List E) (xs : List Int) (y z : Int) : Prop := (z = -1 ∧ ∀ x ∈ xs, x ≠ y → valueF L x < 0) ∨ (z ∈ xs ∧ 0 ≤ z ∧ z ≠ y ∧ 0 ≤ valueF L z)

theorem take_next {α : Type} {c : List α} {k : Nat} {y : α} (h : c[k]? = some y) : c.take (k + 1) = c.take k ++ [y] := by rw [List.take_add_one, h]; rfl

theorem TwoL.skip {L : List E} {xs : List Int} {q : Nat} {y a : Int} (h : TwoL L (xs.take q) a) (hy : xs[q]? = some y) (hp : 0 ≤ y) (hs : y = a ∨ valueF L y < 0) : TwoL L (xs.take (q + 1)) a := by
  rw [take_next hy]
  rcases h with ⟨h1, h2⟩ | ⟨h1, h2, h3, h4⟩
  · refine .inl ⟨h1, fun x hx => ?_⟩
    rcases List.mem_append.1 hx with h | h
    · exact h2 x h
    · rw [List.mem_singleton] at h; subst h
      rcases hs with h | h
      · omega
      · exact h
  · refine .inr ⟨List.mem_append.2 (.inl h1), h2, h3, fun x hx hne => ?_⟩
    rcases List.mem_append.1 hx with h | h
    · exact h4 x h hne
    · rw [List.mem_singleton] at h; subst h
      rcases hs with h | h
      · exact absurd h hne
      · exact h

section
variable {k : K} {kw : WK} {w : World} {g : G} {L : List E} {lev : Nat} {p : V}

theorem stands_is (j : J k kw w g L lev p) {c : Nat} (hc : c < g.nx) (hg : g.gn c = false) (ha : g.a c ≤ 9223372036854775807) (hb : g.b c ≤ 9223372036854775807) {r : Bool} (hr : standsF g L c = r) :
    Calls Tryz.prog 110 #[.pointer (some ⟨g.cb c, 0, none⟩), .pointer (some ⟨k.OB, 0, none⟩)] w fun e w' => e = .returned (.bool r) ∧ Hid (Below w.heap.size w w') := by
  obtain ⟨c0, c1, c2, c3, c4⟩ := j.s.l.ks hc hg
  have HJ := hid j
  obtain ⟨a, ea⟩ : ∃ a, g.a c = a := ⟨_, rfl⟩
  obtain ⟨b, eb⟩ : ∃ b, g.b c = b := ⟨_, rfl⟩
  obtain ⟨y, ey⟩ : ∃ y, valueF L a = y := ⟨_, rfl⟩
  obtain ⟨z, ez⟩ : ∃ z, valueF L b = z := ⟨_, rfl⟩
  unfold standsF at hr
  rw [ea, eb, ey, ez] at hr
  rw [ea] at c2 ha
  rw [eb] at c3 hb
  have HY := hid ey
  have HZ := hid ez
  clear ey ez ea eb j
  by_cases h1 : a = -1
  · subst h1
    have : r = false := by rw [← hr]; simp
    subst this
    clear hr
    go_enter Tryz.func110, Tryz.ntmps110
    go_wp2
    go_region
    all_goals go_wp2
    all_goals go_ret
    all_goals exact ⟨rfl, below_drew w⟩
  · have h1' : (a != -1) = true := by simpa using h1
    by_cases h2 : 0 ≤ y
    · by_cases h3 : 0 ≤ z
      · have : r = true := by rw [← hr]; simp [h1, h2, h3]
        subst this
        clear hr h1
        go_enter Tryz.func110, Tryz.ntmps110
        go_wp2
        go_region
        all_goals go_wp2_with (go_at_call 138; with_reducible (first | (refine (value_is (HJ.out.below (below_drew w)).t a ha HY.out).mono ?_; rintro e w2 ⟨rfl, b2⟩; have b3 := hid (Below.next (below_drew w) b2.out)) | (refine (value_is (HJ.out.below b3.out).t b hb HZ.out).mono ?_; rintro e w4 ⟨rfl, b4⟩)))
        all_goals go_ret
        all_goals exact ⟨rfl, Below.next b3.out b4.out⟩
      · have : r = false := by rw [← hr]; simp [h3]
        subst this
        have h3' : decide (0 ≤ z) = false := by simpa using h3
        clear hr h1
        go_enter Tryz.func110, Tryz.ntmps110
        go_wp2
        go_region
        all_goals go_wp2_with (go_at_call 138; with_reducible (first | (refine (value_is (HJ.out.below (below_drew w)).t a ha HY.out).mono ?_; rintro e w2 ⟨rfl, b2⟩; have b3 := hid (Below.next (below_drew w) b2.out)) | (refine (value_is (HJ.out.below b3.out).t b hb HZ.out).mono ?_; rintro e w4 ⟨rfl, b4⟩)))
        all_goals go_ret
        all_goals exact ⟨rfl, Below.next b3.out b4.out⟩
    · have : r = false := by rw [← hr]; simp [h2]
      subst this
      clear hr h1
      go_enter Tryz.func110, Tryz.ntmps110
      go_wp2
      go_region
      all_goals go_wp2_with (go_at_call 138; with_reducible (refine (value_is (HJ.out.below (below_drew w)).t a ha HY.out).mono ?_); rintro e w2 ⟨rfl, b2⟩)
      all_goals go_ret
      all_goals exact ⟨rfl, Below.next (below_drew w) b2.out⟩

theorem two_is (j : J k kw w g L lev p) {c : Nat} (hc : c < g.nx) (hg : g.gn c = false) (h0 : ∀ x ∈ g.lt c, 0 ≤ x) :
    Calls Tryz.prog 112 #[.pointer (some ⟨g.cb c, 0, none⟩), .pointer (some ⟨k.OB, 0, none⟩)] w fun e w' => ∃ a b : Int, e = .returned (.tuple #[.int .i64 a, .int .i64 b]) ∧ Hid (TwoR L (g.lt c) a b) ∧ Hid (Below w.heap.size w w') := by
  obtain ⟨c0, c1, c2, c3, c4⟩ := j.s.l.ks hc hg
  obtain ⟨ao, n, cp, ev, hrow, _⟩ := j.s.l.li c hc hg
  rw [ev] at c1
  have HJ := hid j
  have HR := hid hrow
  have hmx := hrow.max
  obtain ⟨xs, ex⟩ : ∃ xs, g.lt c = xs := ⟨_, rfl⟩
  rw [ex] at HR h0 ⊢
  have H0 := hid h0
  clear hrow j ev ex h0
  go_enter Tryz.func112, Tryz.ntmps112
  go_wp2
  go_loopw [6, 8, 14] (fun a _ i wr => ∃ (q : Nat) (x : Int), q ≤ n ∧ i = .int .i64 q ∧ a = .int .i64 x ∧ Hid (TwoL L (xs.take q) x) ∧ Hid (Below w.heap.size w wr)) (fun _ _ i _ => n - (intOf i).toNat)
  case atStart => exact ⟨0, -1, Nat.zero_le _, rfl, rfl, hid (.inl ⟨rfl, fun x hx => by simp at hx⟩), hid (Below.refl _ _)⟩
  case round =>
    obtain ⟨q, x, hq, rfl, rfl, hl, hb⟩ := hrel
    by_cases hlt : q < n
    · obtain ⟨b, off, y, rfl, hcc, hy, y0, y1⟩ := (HR.out.keep hb.out).at hlt
      obtain ⟨z, hz⟩ : ∃ z, valueF L y = z := ⟨_, rfl⟩
      have HZ := hid hz
      have hyp : 0 ≤ y := H0.out y (List.mem_of_getElem? hy.out)
      by_cases e : y = x
      · have e' : (y == x) = true := by simpa using e
        have HN := hid (hl.out.skip hy.out hyp (.inl e))
        clear e hz
        go_wp2
        go_roundw
        case rel => exact ⟨q + 1, x, by omega, by go_num, rfl, HN, hb⟩
        case measure => simp only [intOf]; omega
      · have e' : (y == x) = false := by simpa using e
        by_cases hz0 : z < 0
        · have HN := hid (hl.out.skip hy.out hyp (.inr (by rw [hz]; exact hz0)))
          clear e hz
          go_wp2_with (go_at_call 138; with_reducible (refine (value_is (HJ.out.below hb.out).t y y1 HZ.out).mono ?_); rintro e w2 ⟨rfl, b2⟩)
          go_roundw
          case rel => exact ⟨q + 1, x, by omega, by go_num, rfl, HN, hid (Below.next hb.out b2.out)⟩
          case measure => simp only [intOf]; omega
        · by_cases hx : x = -1
          · subst hx
            have HN : Hid (TwoL L (xs.take (q + 1)) y) := hid (by
              rw [take_next hy.out]
              refine .inr ⟨by simp, hyp, by rw [hz]; omega, fun u hu hne => ?_⟩
              rcases List.mem_append.1 hu with h | h
              · rcases hl.out with ⟨_, h2⟩ | ⟨_, h2, _⟩
                · exact h2 u h
                · omega
              · rw [List.mem_singleton] at h; exact absurd h hne)
            clear e hz
            go_wp2_with (go_at_call 138; with_reducible (refine (value_is (HJ.out.below hb.out).t y y1 HZ.out).mono ?_); rintro e w2 ⟨rfl, b2⟩)
            go_roundw
            case rel => exact ⟨q + 1, y, by omega, by go_num, rfl, HN, hid (Below.next hb.out b2.out)⟩
            case measure => simp only [intOf]; omega
          · have hx' : (x != -1) = true := by simpa using hx
            have HN : Hid (TwoR L xs x y) := hid (by
              rcases hl.out with ⟨h1, _⟩ | ⟨h1, h2, h3, _⟩
              · exact absurd h1 hx
              · exact .inr (.inr ⟨List.mem_of_mem_take h1, List.mem_of_getElem? hy.out, h2, hyp, fun c => e c.symm, h3, by rw [hz]; omega⟩))
            clear e hz hx
            go_wp2_with (go_at_call 138; with_reducible (refine (value_is (HJ.out.below hb.out).t y y1 HZ.out).mono ?_); rintro e w2 ⟨rfl, b2⟩)
            go_ret2
            exact ⟨x, y, rfl, HN, Below.next hb.out b2.out⟩
    · have HV : Hid (xs.take q = xs) := hid (List.take_of_length_le (by rw [HR.out.1]; omega))
      have HN : Hid (TwoR L xs x (-1)) := hid (by
        have h := hl.out
        rw [HV.out] at h
        rcases h with ⟨h1, h2⟩ | ⟨h1, h2, h3, h4⟩
        · exact .inl ⟨h1, rfl, h2⟩
        · exact .inr (.inl ⟨h1, h2, h3, rfl, h4⟩))
      go_wp2
      go_ret2
      exact ⟨x, -1, rfl, HN, hb⟩
end

end Go.Proofs.YtimfjoinjfecjaaGreat
