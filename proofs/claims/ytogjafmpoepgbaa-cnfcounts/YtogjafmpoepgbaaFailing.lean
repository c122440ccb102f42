/-
  The lists of truths in which a clause fails.
-/
import Derived.Test.YtogjafmpoepgbaaMark
import Derived.Test.YtogjafmpoepgbaaSets
import Derived.Carry
namespace Go.Proofs.Ytogjafmpoepgbaa
open Go.RowKit Go.Maps
set_option linter.unusedVariables false

theorem Try.info4 : (Try.prog.info? 4).map (fun i => (i.zero, i.size, i.bytes)) = some (some (.bool false), 1, 1) := by kernel_rfl

theorem sides_nat (vars : Nat) (hv : vars ≤ 16) (ao : Option Addr) (n cap p q : Nat) (xs : List Int) (w : World) (h : Row w ao n cap xs) (hg : badC vars xs = false) (hp : p = plainB xs) (hq : q = negB xs) :
    Calls Try.prog 34 #[.slice ao n cap] w fun e w' => e = .returned (.agg #[.int .i64 (p : Int), .int .i64 (q : Int)]) ∧ Below w.heap.size w w' := by
  rw [hp, hq]; exact sides_any vars hv ao n cap xs w h hg

theorem always_yes (p q : Nat) (hp : p < 65536) (hq : q < 65536) (w : World) (h : p &&& q ≠ 0) :
    Calls Try.prog 35 #[.agg #[.int .i64 (p : Int), .int .i64 (q : Int)]] w fun e w' => e = .returned (.bool true) ∧ Below w.heap.size w w' := by
  have := always_any p q hp hq w
  rw [show decide (p &&& q ≠ 0) = true by simpa using h] at this
  exact this
theorem always_no (p q : Nat) (hp : p < 65536) (hq : q < 65536) (w : World) (h : p &&& q = 0) :
    Calls Try.prog 35 #[.agg #[.int .i64 (p : Int), .int .i64 (q : Int)]] w fun e w' => e = .returned (.bool false) ∧ Below w.heap.size w w' := by
  have := always_any p q hp hq w
  rw [show decide (p &&& q ≠ 0) = false by simpa using h] at this
  exact this

theorem own_keep {w w' : World} {b k : Nat} {D : DataW Unit} (h : w.ownsMap Try.prog 58 (unitElem (H := Unit)) b k D) (hb : Below w.heap.size w w') : w'.ownsMap Try.prog 58 (unitElem (H := Unit)) b k D := by
  have hl := h.lt
  obtain ⟨es, clock, e, r⟩ := h
  exact ⟨es, clock, by rw [hb.block _ hl]; exact e, r⟩

/-- Which lists of truths some clause fails in. -/
def FailS (vars : Nat) (xss : List (List Int)) (i : Nat) : Prop := ∃ xs ∈ xss, missF vars (fun v => i.testBit v) xs = true
def SideS (xss : List (List Int)) (p q : Nat) : Prop := ∃ xs ∈ xss, plainB xs = p ∧ negB xs = q

theorem failS_more {vars : Nat} {xss : List (List Int)} {k i : Nat} {ys : List Int} (hy : xss[k]? = some ys) : FailS vars (xss.take (k + 1)) i ↔ (FailS vars (xss.take k) i ∨ missF vars (fun v => i.testBit v) ys = true) := by
  simp only [FailS, List.take_add_one, hy, Option.toList_some, List.mem_append, List.mem_singleton]
  constructor
  · rintro ⟨xs, h | rfl, h2⟩
    · exact .inl ⟨xs, h, h2⟩
    · exact .inr h2
  · rintro (⟨xs, h, h2⟩ | h)
    · exact ⟨xs, .inl h, h2⟩
    · exact ⟨ys, .inr rfl, h⟩

theorem sideS_more {xss : List (List Int)} {k p q : Nat} (h : SideS (xss.take k) p q) : SideS (xss.take (k + 1)) p q := by
  obtain ⟨xs, h, r⟩ := h
  exact ⟨xs, by rw [List.take_add_one]; exact List.mem_append_left _ h, r⟩
theorem sideS_new {xss : List (List Int)} {k : Nat} {ys : List Int} (hy : xss[k]? = some ys) : SideS (xss.take (k + 1)) (plainB ys) (negB ys) :=
  ⟨ys, by rw [List.take_add_one, hy]; simp, rfl, rfl⟩

theorem failS_seen {vars : Nat} {xss : List (List Int)} {k i : Nat} {ys : List Int} (hg : badG vars xss = false) (hy : xss[k]? = some ys) (h : SideS (xss.take k) (plainB ys) (negB ys)) : FailS vars (xss.take k) i ↔ FailS vars (xss.take (k + 1)) i := by
  rw [failS_more hy]
  refine ⟨.inl, ?_⟩
  rintro (h' | h')
  · exact h'
  · obtain ⟨xs, hx, e1, e2⟩ := h
    have g1 : badC vars xs = false := by simpa using List.any_eq_false.1 hg xs (List.mem_of_mem_take hx)
    have g2 : badC vars ys = false := by simpa using List.any_eq_false.1 hg ys (List.mem_of_getElem? hy)
    refine ⟨xs, hx, ?_⟩
    rw [fail_iff g1, e1, e2, ← fail_iff g2]
    exact h'

theorem failS_always {vars : Nat} {xss : List (List Int)} {k i : Nat} {ys : List Int} (hg : badG vars xss = false) (hy : xss[k]? = some ys) (h : plainB ys &&& negB ys ≠ 0) : FailS vars (xss.take k) i ↔ FailS vars (xss.take (k + 1)) i := by
  rw [failS_more hy]
  refine ⟨.inl, ?_⟩
  rintro (h' | h')
  · exact h'
  · have g2 : badC vars ys = false := by simpa using List.any_eq_false.1 hg ys (List.mem_of_getElem? hy)
    rw [fail_iff g2] at h'
    exact absurd h' (fail_always h)

theorem failS_mark {vars : Nat} {xss : List (List Int)} {k i : Nat} {ys : List Int} (hv : vars ≤ 16) (hg : badG vars xss = false) (hy : xss[k]? = some ys) (h : plainB ys &&& negB ys = 0) (hi : i < 2 ^ vars) :
    (FailS vars (xss.take k) i ∨ ∃ t, t &&& freeB (2 ^ vars - 1) (plainB ys ||| negB ys) = t ∧ i = negB ys ||| t) ↔ FailS vars (xss.take (k + 1)) i := by
  have g2 : badC vars ys = false := by simpa using List.any_eq_false.1 hg ys (List.mem_of_getElem? hy)
  rw [failS_more hy, fail_iff g2, mark_iff (by omega) (plain_lt g2) (neg_lt g2) h hi]

theorem set_more {w : World} {b k p q : Nat} {D d : DataW Unit} {kl : Lit} {S S' : Nat → Nat → Prop} (HD : ∀ p n kl, keyOf Try.prog 58 (sideV p n) = some kl → Maps.has D kl = true → S p n)
    (hkl : keyOf Try.prog 58 (.agg #[.int .i64 (p : Int), .int .i64 (q : Int)]) = some kl) (h : w.ownsMap Try.prog 58 (unitElem (H := Unit)) b k (D.put kl d)) (hs : ∀ a c, S a c → S' a c) (hn : S' p q) : SetIs w b k S' := by
  refine ⟨_, h, fun a c kq hq hh => ?_⟩
  by_cases e : kq = kl
  · subst e
    obtain ⟨rfl, rfl⟩ := side_inj (p := a) (n := c) (p' := p) (n' := q) (law58.inj hq hkl)
    exact hn
  · rw [has_put_other e] at hh
    exact hs _ _ (HD a c kq hq hh)

theorem Blk.same {w w' : World} {b : Nat} {x y : Int} (h : Blk w b x y) (e : w'.heap[b]? = w.heap[b]?) : Blk w' b x y := by
  unfold Blk; rw [e]; exact h

theorem hid {p : Prop} (h : p) : Hid p := h
theorem two_new (w : World) (o o' : Obj) : Below w.heap.size w ((w.alloc o).alloc o') := ((Below.refl _ _).alloc (Nat.le_refl _) _).alloc (by simp) _
theorem one_new (w : World) (o : Obj) : Below w.heap.size w (w.alloc o) := (Below.refl _ _).alloc (Nat.le_refl _) _

theorem failing_start (w : World) (n vars : Nat) (xss : List (List Int)) :
    Marks ((w.alloc (.cells (madeCells #[.bool false] n) 4)).alloc (.map #[] 0)) w.heap.size n (FailS vars (xss.take 0)) ∧ SetIs ((w.alloc (.cells (madeCells #[.bool false] n) 4)).alloc (.map #[] 0)) (w.heap.size + 1) 0 (SideS (xss.take 0)) := by
  constructor
  · exact ((Marks.made w n).keep (one_new _ _)).iff fun i hi => ⟨False.elim, fun ⟨xs, h, _⟩ => by simp at h⟩
  · have := SetIs.made (w.alloc (.cells (madeCells #[.bool false] n) 4)) (SideS (xss.take 0))
    simpa using this

set_option maxHeartbeats 4000000 in
theorem failing_any (vars n : Nat) (hv : vars ≤ 16) (hn : n = 2 ^ vars) (ao : Option Addr) (L cap : Nat) (xss : List (List Int)) (w : World) (h : Grid w ao L cap xss) (hL : L ≤ 1000) (hg : badG vars xss = false) :
    Calls Try.prog 23 #[.int .i64 (vars : Int), .slice ao L cap] w fun e w' => ∃ g, e = .returned (.slice (some ⟨g, 0, none⟩) n n) ∧ Hid (Marks w' g n (FailS vars xss)) ∧ Below w.heap.size w w' := by
  have HR : Hid (Grid w ao L cap xss) := h
  have HG : Hid (badG vars xss = false) := hg
  have HN : Hid (n = 2 ^ vars) := hn
  have n2 : n ≤ 65536 := by rw [hn]; exact Nat.pow_le_pow_right (n := 2) (by omega) hv
  have hsh : IntKind.i64.wrap ((2 : Int) ^ vars) = (n : Int) := by
    have e : ((2 : Int) ^ vars) = ((2 ^ vars : Nat) : Int) := by simp
    rw [e, ← hn]
    exact IntWalk.i64_in _ (by omega)
  have hmk := run_make_row' (P := Try.prog) 23 4 (.bool false) 1 Try.underlying23 Try.info4 rfl .i64 .i64 n (by omega) (by omega)
  have hmm := @run_makeMap Try.prog
  clear h hg hn
  go_enter Try.func23, Try.ntmps23
  go_wp2
  clear hmk hmm hsh
  go_loopw [18] (fun i wr => ∃ k : Nat, k ≤ L ∧ i = .int .i64 k ∧ Hid (Marks wr w.heap.size n (FailS vars (xss.take k))) ∧ Hid (SetIs wr (w.heap.size + 1) k (SideS (xss.take k))) ∧ Below w.heap.size w wr) (fun i _ => L - (intOf i).toNat)
  case atStart => exact ⟨0, Nat.zero_le _, rfl, (failing_start w n vars xss).1, (failing_start w n vars xss).2, two_new _ _ _⟩
  case round =>
    obtain ⟨k, hk, rfl, hMk, hSt, hb⟩ := hrel
    by_cases hlt : k < L
    · obtain ⟨b, off, a1, m1, c1, ys, rfl, hc0, hy, hr⟩ := HR.out.at hlt
      have hc := (hb.cell (cell_lt hc0)).trans hc0
      clear hc0
      have HY : Hid (badC vars ys = false) := by show _ = _; simpa using List.any_eq_false.1 HG.out ys (List.mem_of_getElem? hy.out)
      have hr2 : Hid (Row wr a1 m1 c1 ys) := hr.out.keep hb
      obtain ⟨p, hp⟩ : ∃ p, p = plainB ys := ⟨_, rfl⟩
      obtain ⟨q, hq⟩ : ∃ q, q = negB ys := ⟨_, rfl⟩
      have hp2 : p < n := by rw [hp, HN.out]; exact plain_lt HY.out
      have hq2 : q < n := by rw [hq, HN.out]; exact neg_lt HY.out
      have hp3 : p < 65536 := by omega
      have hq3 : q < 65536 := by omega
      have HP : Hid (p = plainB ys) := hp
      have HQ : Hid (q = negB ys) := hq
      clear hp hq
      have hsz := hSt.out.lt
      obtain ⟨kl, hkl⟩ := side_key p q (by omega) (by omega)
      obtain ⟨D, HO, HD⟩ := hSt.out
      have HO : Hid (wr.ownsMap Try.prog 58 (unitElem (H := Unit)) (w.heap.size + 1) k D) := HO
      have HD : Hid (∀ p n kl, keyOf Try.prog 58 (sideV p n) = some kl → Maps.has D kl = true → SideS (xss.take k) p n) := HD
      have HK : Hid (keyOf Try.prog 58 (.agg #[.int .i64 (p : Int), .int .i64 (q : Int)]) = some kl) := hkl
      clear hkl
      cases hh : Maps.has D kl
      · by_cases ha : p &&& q = 0
        · have HF : Hid (∀ i, i < n → ((FailS vars (xss.take k) i ∨ ∃ t, t &&& freeB (n - 1) (p ||| q) = t ∧ i = q ||| t) ↔ FailS vars (xss.take (k + 1)) i)) := by
            intro i hi
            rw [HN.out, HP.out, HQ.out]
            exact failS_mark hv HG.out hy.out (by rw [← HP.out, ← HQ.out]; exact ha) (by rw [← HN.out]; exact hi)
          have HA : Hid (p &&& q = 0) := ha
          clear ha
          go_wp2_with (first
            | (go_at_call 34; with_reducible (refine (sides_nat vars hv _ _ _ p q ys _ hr2.out HY.out HP.out HQ.out).mono ?_); rintro e w1 ⟨rfl, hb1⟩)
            | (at_lookup; refine wpList_lookup_own_unit _ rfl _ _ 56 rfl 58 60 law58 Try.underlying56 (zero60 _) (w.heap.size + 1) k D rfl (own_keep HO.out (Below.next hb1 (one_new _ _))) _ kl rfl HK.out ?_)
            | (go_at_call 35; with_reducible (refine (always_no p q hp3 hq3 _ HA.out).mono ?_); rintro e w3 ⟨rfl, hb3⟩; have HB3 : Hid (Blk w3 w1.heap.size p q) := hid (((Blk.made w1 p q).keep (one_new _ _)).keep hb3); have d0 := HB3.out.c0; have d1 := HB3.out.c1; have HE3 : Hid (Below wr.heap.size wr w3) := hid (Below.next (Below.next hb1 (two_new _ _ _)) hb3))
            | (at_mapUpdate; refine wpList_mapUpdate_own _ rfl _ _ _ 56 rfl 58 60 law58 Try.underlying56 (unitElem (H := Unit)) (w.heap.size + 1) k D rfl (own_keep HO.out HE3.out) (by unfold maxLen; omega) _ _ kl rfl rfl HK.out _ [] unitElem_mk ?_; intro w4 hown4 hg4; have hs1 := hb1.size; have HB4 : Hid (Blk w4 w1.heap.size p q) := hid (HB3.out.same (hg4.block _ HB3.out.lt (by simp; omega))); have f0 := HB4.out.c0; have f1 := HB4.out.c1; have HM4 : Hid (Marks w4 w.heap.size n (FailS vars (xss.take k))) := hid ((hMk.out.keep HE3.out).same (hg4.block _ (hMk.out.keep HE3.out).lt (by simp))))
            | (go_at_call 36; with_reducible (refine (mark_any vars p q w.heap.size n hv HN.out hp2 hq2 _ _ HM4.out).mono ?_); rintro e w5 ⟨rfl, hM5, hg5⟩))
          have hl4 : w.heap.size + 1 < w4.heap.size := hown4.lt
          have HS5 : Hid (SetIs w5 (w.heap.size + 1) (k + 1) (SideS (xss.take (k + 1)))) :=
            (set_more HD.out HK.out hown4 (fun a c => sideS_more) (by rw [HP.out, HQ.out]; exact sideS_new hy.out)).same (hg5.out.block _ hl4 (by simp))
          have hs3 := HE3.out.size
          have hsb := hb.size
          have hs4 := hg4.size
          have HB5 : Hid (Below w.heap.size w w5) := ((hb.trans (HE3.out.mono hb.size)).grown hg4 (by omega) (fun j hj => by cases hj; omega)).grown hg5.out (by omega) (fun j hj => by cases hj; omega)
          go_roundw
          case rel => exact ⟨k + 1, by omega, by go_num, hM5.out.iff HF.out, HS5, HB5.out⟩
          case measure => simp [intOf]; omega
        · have HF : Hid (∀ i, i < n → (FailS vars (xss.take k) i ↔ FailS vars (xss.take (k + 1)) i)) := fun i _ => failS_always HG.out hy.out (by rw [← HP.out, ← HQ.out]; exact ha)
          have HA : Hid (p &&& q ≠ 0) := ha
          clear ha
          go_wp2_with (first
            | (go_at_call 34; with_reducible (refine (sides_nat vars hv _ _ _ p q ys _ hr2.out HY.out HP.out HQ.out).mono ?_); rintro e w1 ⟨rfl, hb1⟩)
            | (at_lookup; refine wpList_lookup_own_unit _ rfl _ _ 56 rfl 58 60 law58 Try.underlying56 (zero60 _) (w.heap.size + 1) k D rfl (own_keep HO.out (Below.next hb1 (one_new _ _))) _ kl rfl HK.out ?_)
            | (go_at_call 35; with_reducible (refine (always_yes p q hp3 hq3 _ HA.out).mono ?_); rintro e w3 ⟨rfl, hb3⟩; have HE3 : Hid (Below wr.heap.size wr w3) := hid (Below.next (Below.next hb1 (two_new _ _ _)) hb3)))
          go_roundw
          case rel => exact ⟨k + 1, by omega, by go_num, (hMk.out.keep HE3.out).iff HF.out, (hSt.out.keep HE3.out).more (by omega) (fun a c => sideS_more), hb.trans (HE3.out.mono hb.size)⟩
          case measure => simp [intOf]; omega
      · have HF : Hid (∀ i, i < n → (FailS vars (xss.take k) i ↔ FailS vars (xss.take (k + 1)) i)) := fun i _ => failS_seen HG.out hy.out (by rw [← HP.out, ← HQ.out]; exact HD.out p q kl HK.out hh)
        go_wp2_with (first
          | (go_at_call 34; with_reducible (refine (sides_nat vars hv _ _ _ p q ys _ hr2.out HY.out HP.out HQ.out).mono ?_); rintro e w1 ⟨rfl, hb1⟩)
          | (at_lookup; refine wpList_lookup_own_unit _ rfl _ _ 56 rfl 58 60 law58 Try.underlying56 (zero60 _) (w.heap.size + 1) k D rfl (own_keep HO.out (Below.next hb1 (one_new _ _))) _ kl rfl HK.out ?_))
        go_roundw
        case rel =>
          have HE3 := Below.next hb1 (two_new w1 (.cells #[.int .i64 (p : Int), .int .i64 (q : Int)] 58) (.cells #[] 60))
          exact ⟨k + 1, by omega, by go_num, (hMk.out.keep HE3).iff HF.out, (hSt.out.keep HE3).more (by omega) (fun a c => sideS_more), hb.trans (HE3.mono hb.size)⟩
        case measure => simp [intOf]; omega
    · have HX : Hid (xss.take k = xss) := List.take_of_length_le (by rw [HR.out.1]; omega)
      go_wp2
      go_ret
      exact ⟨_, rfl, by rw [HX.out] at hMk; exact hMk, hb⟩

end Go.Proofs.Ytogjafmpoepgbaa
