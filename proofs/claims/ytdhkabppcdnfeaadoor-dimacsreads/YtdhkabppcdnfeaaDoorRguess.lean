/-
  What the document takes a text for, walked.
-/
import Derived.Test.YtdhkabppcdnfeaaDoorRnum
import Derived.Test.YtdhkabppcdnfeaaDoorWhole
import Derived.Test.YtdhkabppcdnfeaaDoorReads
namespace Go.Proofs.YtdhkabppcdnfeaaDoor
open Go.RowKit
open Go.Lib (decDigits itoa hasPrefix trimPrefix)
set_option linter.unusedVariables false

theorem rnum_any (s : List UInt8) (a : Nat) (w : World) (hs : s.length ≤ 1000000) (ha : a ≤ 1000000) (n : Int) (p : Nat) (b : Bool) (hn : rval (s.drop a) = n) (hp : a + rlen (s.drop a) = p) (hb : rok (s.drop a) = b) :
    Calls Tryd.prog 35 #[.string ⟨s.toArray⟩, .int .i64 a] w fun e w' => e = .returned (.tuple #[.int .i64 n, .int .i64 p, .bool b]) ∧ w' = w := by
  have key : Calls Tryd.prog 35 #[.string ⟨s.toArray⟩, .int .i64 a] w fun e w' => Hid (NumR s a e) ∧ w' = w := by
    by_cases h : a < s.length
    · obtain ⟨c, b0, _, _, _, hby⟩ := byte_at h
      by_cases h45 : b0 = 45
      · subst h45; exact rnum_sign s a w hs ha h hby
      · exact rnum_plain s a w hs ha b0 h hby h45
    · exact rnum_off s a w hs ha h
  refine key.mono fun e w' ⟨he, hw⟩ => ⟨?_, hw⟩
  have : e = .returned (.tuple #[.int .i64 (rval (s.drop a)), .int .i64 ((a + rlen (s.drop a) : Nat) : Int), .bool (rok (s.drop a))]) := he
  rw [this, hn, hp, hb]

theorem rnum_next (s : List UInt8) (a : Nat) (w : World) (hs : s.length ≤ 1000000) (ha : a + 1 ≤ 1000000) (n : Int) (p : Nat) (b : Bool) (hn : rval (s.drop (a + 1)) = n) (hp : a + 1 + rlen (s.drop (a + 1)) = p) (hb : rok (s.drop (a + 1)) = b) :
    Calls Tryd.prog 35 #[.string ⟨s.toArray⟩, .int .i64 ((a : Int) + 1)] w fun e w' => e = .returned (.tuple #[.int .i64 n, .int .i64 p, .bool b]) ∧ w' = w := by
  have e : ((a + 1 : Nat) : Int) = (a : Int) + 1 := by omega
  rw [← e]
  exact rnum_any s (a + 1) w hs ha n p b hn hp hb

theorem rnum_six (s : List UInt8) (w : World) (hs : s.length ≤ 1000000) (n : Int) (p : Nat) (b : Bool) (hn : rval (s.drop 6) = n) (hp : 6 + rlen (s.drop 6) = p) (hb : rok (s.drop 6) = b) :
    Calls Tryd.prog 35 #[.string ⟨s.toArray⟩, .int .i64 6] w fun e w' => e = .returned (.tuple #[.int .i64 n, .int .i64 p, .bool b]) ∧ w' = w := by
  have e : ((6 : Nat) : Int) = 6 := by omega
  rw [← e]
  exact rnum_any s 6 w hs (by omega) n p b hn hp hb

theorem rlen_drop (s : List UInt8) (a : Nat) (h : a ≤ s.length) : a + rlen (s.drop a) ≤ s.length := by
  have := rlen_le (s.drop a)
  rw [List.length_drop] at this; omega
theorem rok_in {s : List UInt8} {a : Nat} (h : rok (s.drop a) = true) : a < s.length ∧ 1 ≤ rlen (s.drop a) := by
  have h1 : 0 < (dg8 (s.drop a)).length := by simpa [rok] using h
  have h2 : 1 ≤ rlen (s.drop a) := by unfold rlen; omega
  have h3 := rlen_le (s.drop a)
  rw [List.length_drop] at h3
  omega

theorem guess_eq {s : List UInt8} {v : Int} {p1 p2 c : Nat} (hp : hasPrefix s kindT = true) (h1 : rok (s.drop 6) = true) (hv : rval (s.drop 6) = v) (e1 : 6 + rlen (s.drop 6) = p1) (h2 : rok (s.drop (p1 + 1)) = true) (hc : rval (s.drop (p1 + 1)) = c) (e2 : p1 + 1 + rlen (s.drop (p1 + 1)) = p2) (hl : c ≤ s.length) :
    guessP s = match grows s (p2 + 1) c with
      | none => none
      | some (l, _) => some (v, l) := by
  have g1 : gat1 s = p1 := e1
  have g2 : gat2 s = p2 := by unfold gat2; rw [g1]; exact e2
  have g3 : gcount s = c := by unfold gcount; rw [g1]; exact hc
  have gb : gbad s = false := by
    unfold gbad
    rw [hp, h1, g1, h2, g3]
    simp
    omega
  unfold guessP
  rw [if_neg (by simp [gb]), g2, g3, hv]
  rfl

theorem rof_at (n x : Int) (w : World) (hl : -9223372036854775808 ≤ n) (hu : n ≤ 9223372036854775807) (hx : makF (vofF n) (sofF n) = x) : Calls Tryd.prog 36 #[.int .i64 n] w fun e w' => e = .returned (.tuple #[.int .i64 x, .int .i64 (errF (vofF n))]) ∧ w' = w :=
  (rof_any n w hl hu).mono fun e w' ⟨he, hw⟩ => ⟨by rw [he, hx], hw⟩

/-! ### Steps of the plain functions -/
theorem gl_off {s : List UInt8} {k a : Nat} (h : ¬ a < s.length) : glits s (k + 1) a = some ([], a) := by simp only [glits]; rw [if_neg h]
theorem gl_no {s : List UInt8} {k a : Nat} (h : a < s.length) (hr : rok (s.drop a) = false) : glits s (k + 1) a = none := by simp only [glits]; rw [if_pos h, if_neg (by simp [hr])]
theorem gl_zero {s : List UInt8} {k a p : Nat} {n : Int} (h : a < s.length) (hr : rok (s.drop a) = true) (hn : rval (s.drop a) = n) (hp : a + rlen (s.drop a) = p) (he : ¬ errF (vofF n) = 0) : glits s (k + 1) a = some ([], p + 1) := by
  simp only [glits]; rw [if_pos h, if_pos hr, hn, if_neg he, hp]
theorem gl_more {s : List UInt8} {k a p : Nat} {n : Int} (h : a < s.length) (hr : rok (s.drop a) = true) (hn : rval (s.drop a) = n) (hp : a + rlen (s.drop a) = p) (he : errF (vofF n) = 0) : glits s (k + 1) a = (glits s k (p + 1)).map (fun q => (makF (vofF n) (sofF n) :: q.1, q.2)) := by
  simp only [glits]; rw [if_pos h, if_pos hr, hn, if_pos he, hp]
theorem gr_step {s : List UInt8} {a k p q : Nat} {ls : List (List Int)} {c : List Int} (h : grows s a k = some (ls, p)) (hc : gclause s p = some (c, q)) : grows s a (k + 1) = some (ls ++ [c], q) := by
  simp only [grows]; rw [h]; simp only []; rw [hc]
theorem gr_fail {s : List UInt8} {a k p : Nat} {ls : List (List Int)} (h : grows s a k = some (ls, p)) (hc : gclause s p = none) : grows s a (k + 1) = none := by
  simp only [grows]; rw [h]; simp only []; rw [hc]

theorem mak_fit (v : Int) (b : Bool) : 0 ≤ makF v b ∧ makF v b ≤ 2097151 := by
  unfold makF
  split
  · omega
  · rename_i h
    unfold badF at h
    cases b <;> simp only [bitF] <;> simp <;> omega

theorem fit_snoc {xs : List Int} {x : Int} (h : Fit xs) (h0 : 0 ≤ x) (h1 : x ≤ 2097151) : Fit (xs ++ [x]) := by
  intro y hy
  rcases List.mem_append.1 hy with hy | hy
  · exact h y hy
  · rw [List.mem_singleton] at hy; subst hy; omega

theorem GVO.keep {w w' : World} {B : Nat} {vs : List Value} {xss : List (List Int)} (h : GVO w B vs xss) (b : Below w.heap.size w w') : GVO w' B vs xss := by
  refine ⟨h.1, fun j hj => ?_⟩
  obtain ⟨x, h1, h2⟩ := h.2 j hj
  exact ⟨x, h1, h2.kept (grown_below b none) (by cases e : x.ownBlock <;> simp)⟩
theorem own_keep {w w' : World} {B : Nat} {E : TypeId} {v : Value} {n : Nat} {xs : List Value} (h : w.ownsRow B E 1 v n xs) (b : Below w.heap.size w w') : w'.ownsRow B E 1 v n xs :=
  h.kept (grown_below b none) (by cases e : v.ownBlock <;> simp)

theorem pre_take {s : List UInt8} : hasPrefix s kindT = (s.take 6 == kindT) := by
  rw [Bool.eq_iff_iff, hp_iff, beq_iff_eq]
  constructor
  · rintro ⟨r, rfl⟩; rfl
  · intro h; exact ⟨s.drop 6, by rw [← h, List.take_append_drop]⟩

theorem ext_take (s : List UInt8) : ({ data := s.toArray } : ByteArray).extract 0 6 = ⟨(s.take 6).toArray⟩ := by
  apply ByteArray.ext
  rw [ByteArray.data_extract]
  apply Array.ext'
  simp [List.extract_eq_take_drop]

def GuessEnd (s : List UInt8) (w : World) (e : Ending) (w' : World) : Prop :=
  (∃ v l, guessP s = some (v, l) ∧ ∃ ao cap, e = .returned (.tuple #[.int .i64 v, .slice ao l.length cap, .bool true]) ∧ Grid w' ao l.length cap l ∧ Below w.heap.size w w' ∧ l.length ≤ 3000 ∧ (∀ c ∈ l, c.length ≤ 3001) ∧ -100000000 < v ∧ v < 100000000) ∨
  (guessP s = none ∧ e = .returned (.tuple #[.int .i64 0, .slice none 0 0, .bool false]) ∧ Below w.heap.size w w')

theorem g_none {s : List UInt8} (h : gbad s = true) : guessP s = none := by unfold guessP; rw [if_pos h]

set_option maxHeartbeats 8000000 in
theorem guess_all (s : List UInt8) (w : World) (hs : s.length ≤ 3000) :
    Calls Tryd.prog 22 #[.string ⟨s.toArray⟩] w fun e w' => GuessEnd s w e w' := by
  cases hp : hasPrefix s kindT
  · have HE := hid (g_none (s := s) (by unfold gbad; rw [hp]; rfl))
    by_cases h6 : s.length < 6
    · have h6' : (s.length : Int) < 6 := by omega
      go_enter Tryd.func22, Tryd.ntmps22
      go_wp2
      go_ret3
      exact .inr ⟨HE.out, rfl, Below.refl _ _⟩
    · have h6' : ¬ (s.length : Int) < 6 := by omega
      have hx := ext_take s
      have hk : (s.take 6 == [112, 32, 99, 110, 102, 32]) = false := by rw [pre_take] at hp; exact hp
      clear hp
      go_enter Tryd.func22, Tryd.ntmps22
      go_wp2
      go_ret3
      exact .inr ⟨HE.out, rfl, Below.refl _ _⟩
  have hk : (s.take 6 == [112, 32, 99, 110, 102, 32]) = true := by rw [pre_take] at hp; exact hp
  have h6' : ¬ (s.length : Int) < 6 := by
    obtain ⟨r, rfl⟩ := hp_iff.1 hp
    simp [kindT]; omega
  have hx := ext_take s
  have HP := hid hp
  clear hp
  have hs6 : s.length ≤ 1000000 := by omega
  have hl6 : 6 ≤ s.length := by omega
  obtain ⟨v, hv⟩ : ∃ v, Hid (rval (s.drop 6) = v) := ⟨_, hid rfl⟩
  obtain ⟨p1, hp1⟩ : ∃ p, Hid (6 + rlen (s.drop 6) = p) := ⟨_, hid rfl⟩
  have HVB : Hid (-100000000 < v ∧ v < 100000000) := by have := rval_bound (s.drop 6); rw [hv.out] at this; exact this
  have hp1b : p1 ≤ 3000 := by have := rlen_drop s 6 hl6; rw [hp1.out] at this; omega
  cases ho : rok (s.drop 6)
  · have HO := hid ho
    have HE := hid (g_none (s := s) (by unfold gbad; rw [ho]; simp))
    clear ho
    go_enter Tryd.func22, Tryd.ntmps22
    go_wp2_with (go_at_call 35; with_reducible (refine (rnum_six s _ hs6 v p1 false hv.out hp1.out HO.out).mono ?_); rintro e w1 ⟨rfl, rfl⟩)
    go_ret3
    exact .inr ⟨HE.out, rfl, Below.refl _ _⟩
  have HO := hid ho
  clear ho
  obtain ⟨cnt, hcnt⟩ : ∃ v, Hid (rval (s.drop (p1 + 1)) = v) := ⟨_, hid rfl⟩
  obtain ⟨p2, hp2⟩ : ∃ p, Hid (p1 + 1 + rlen (s.drop (p1 + 1)) = p) := ⟨_, hid rfl⟩
  have hcb : -100000000 < cnt ∧ cnt < 100000000 := by have := rval_bound (s.drop (p1 + 1)); rw [hcnt.out] at this; exact this
  have hg1 : gat1 s = p1 := hp1.out
  have hg3 : gcount s = cnt := by unfold gcount; rw [hg1]; exact hcnt.out
  have hp2b : p2 ≤ 7000 := by
    have := rlen_le (s.drop (p1 + 1))
    rw [List.length_drop] at this
    rw [← hp2.out]; omega
  cases ho2 : rok (s.drop (p1 + 1))
  · have HO2 := hid ho2
    have HE := hid (g_none (s := s) (by unfold gbad; rw [hg1, ho2]; simp))
    clear ho2 hg1 hg3
    go_enter Tryd.func22, Tryd.ntmps22
    go_wp2_with (go_at_call 35; first
      | (with_reducible (refine (rnum_six s _ hs6 v p1 true hv.out hp1.out HO.out).mono ?_); rintro e w1 ⟨rfl, rfl⟩)
      | (with_reducible (refine (rnum_next s p1 _ hs6 (by omega) cnt p2 false hcnt.out hp2.out HO2.out).mono ?_); rintro e w1 ⟨rfl, rfl⟩))
    go_ret3
    exact .inr ⟨HE.out, rfl, Below.refl _ _⟩
  have HO2 := hid ho2
  by_cases c0 : cnt < 0
  · have HE := hid (g_none (s := s) (by unfold gbad; rw [hg3]; simp [c0]))
    clear ho2 hg1 hg3
    go_enter Tryd.func22, Tryd.ntmps22
    go_wp2_with (go_at_call 35; first
      | (with_reducible (refine (rnum_six s _ hs6 v p1 true hv.out hp1.out HO.out).mono ?_); rintro e w1 ⟨rfl, rfl⟩)
      | (with_reducible (refine (rnum_next s p1 _ hs6 (by omega) cnt p2 true hcnt.out hp2.out HO2.out).mono ?_); rintro e w1 ⟨rfl, rfl⟩))
    go_ret3
    exact .inr ⟨HE.out, rfl, Below.refl _ _⟩
  by_cases c1 : (s.length : Int) < cnt
  · have HE := hid (g_none (s := s) (by unfold gbad; rw [hg3]; simp [c1]))
    clear ho2 hg1 hg3
    go_enter Tryd.func22, Tryd.ntmps22
    go_wp2_with (go_at_call 35; first
      | (with_reducible (refine (rnum_six s _ hs6 v p1 true hv.out hp1.out HO.out).mono ?_); rintro e w1 ⟨rfl, rfl⟩)
      | (with_reducible (refine (rnum_next s p1 _ hs6 (by omega) cnt p2 true hcnt.out hp2.out HO2.out).mono ?_); rintro e w1 ⟨rfl, rfl⟩))
    go_ret3
    exact .inr ⟨HE.out, rfl, Below.refl _ _⟩
  obtain ⟨c, rfl⟩ := Int.eq_ofNat_of_zero_le (show 0 ≤ cnt by omega)
  have hcl : c ≤ s.length := by omega
  have HG := hid (guess_eq HP.out HO.out hv.out hp1.out HO2.out hcnt.out hp2.out hcl)
  have hp2c : p2 ≤ s.length := by
    have h1 := rok_in ho2
    have := rlen_drop s (p1 + 1) (by omega)
    rw [hp2.out] at this; exact this
  have cb0 : decide ((c : Int) < 0) = false := by simp
  have cb1 : decide ((s.length : Int) < c) = false := by simp; omega
  have cb2 : decide (s.length < c) = false := by simp; omega
  clear ho2 hg1 hg3 hcb c0 c1
  go_enter Tryd.func22, Tryd.ntmps22
  go_wp2_with (go_at_call 35; first
    | (with_reducible (refine (rnum_six s _ hs6 v p1 true hv.out hp1.out HO.out).mono ?_); rintro e w1 ⟨rfl, rfl⟩)
    | (with_reducible (refine (rnum_next s p1 _ hs6 (by omega) c p2 true hcnt.out hp2.out HO2.out).mono ?_); rintro e w1 ⟨rfl, rfl⟩))
  go_loopw [6, 9, 10] (fun a lv i wr => ∃ (k p : Nat) (ls : List (List Int)) (vs : List Value), k ≤ c ∧ a = .int .i64 p ∧ i = .int .i64 k ∧ p ≤ s.length + 1 ∧ vs.length = k ∧ Hid (wr.ownsRow w1.heap.size 37 1 lv vs.length vs) ∧ Hid (GVO wr w1.heap.size vs ls) ∧ Hid (Below w1.heap.size w1 wr) ∧ Hid (grows s (p2 + 1) k = some (ls, p)) ∧ Hid (∀ x ∈ ls, x.length ≤ 3001 ∧ Fit x)) (fun _ _ i _ => c - (intOf i).toNat)
  case atStart => exact ⟨0, p2 + 1, [], [], Nat.zero_le _, by go_num, rfl, by omega, rfl, World.ownsRow_nil _ _ _ _, ⟨rfl, fun j hj => by simp at hj⟩, Below.refl _ _, hid rfl, hid (by simp)⟩
  case round =>
    obtain ⟨k, p, ls, vs, hk, rfl, rfl, hpl, hvl, hown, hgv, hbel, hrow, hfit⟩ := hrel
    by_cases hlt : k < c
    · go_wp2
      go_loopw [6, 11] (fun a cv wi => ∃ (q j : Nat) (xs : List Int), a = .int .i64 q ∧ q ≤ s.length + 1 ∧ s.length + 2 ≤ q + j ∧ xs.length + j ≤ s.length + 2 ∧ Hid (wi.ownsRow wr.heap.size 3 1 cv xs.length (intsV xs)) ∧ Hid (Below wr.heap.size wr wi) ∧ Hid (gclause s p = (glits s j q).map (fun z => (xs ++ z.1, z.2))) ∧ Hid (Fit xs)) (fun a _ _ => s.length + 1 - (intOf a).toNat)
      case atStart => exact ⟨p, s.length + 2, [], rfl, hpl, by omega, by simp, World.ownsRow_nil _ _ _ _, Below.refl _ _, hid (by simp [gclause]), hid (fun x hx => by simp at hx)⟩
      case round =>
        obtain ⟨q, j, xs, rfl, hql, hqj, hxj, hci, hbi, hgl, hxf⟩ := hrel
        obtain ⟨j, rfl⟩ : ∃ i, j = i + 1 := ⟨j - 1, by omega⟩
        obtain ⟨ao, cap, hao⟩ := slice_own hci.out
        subst hao
        by_cases hq : q < s.length
        · obtain ⟨n, hn⟩ : ∃ v, Hid (rval (s.drop q) = v) := ⟨_, hid rfl⟩
          obtain ⟨q1, hq1⟩ : ∃ x, Hid (q + rlen (s.drop q) = x) := ⟨_, hid rfl⟩
          have hnb : -100000000 < n ∧ n < 100000000 := by have := rval_bound (s.drop q); rw [hn.out] at this; exact this
          have hq1b : q1 ≤ s.length := by have := rlen_drop s q (by omega); rw [hq1.out] at this; exact this
          have hq1q : q ≤ q1 := by rw [← hq1.out]; omega
          cases hr : rok (s.drop q)
          · have HO3 := hid hr
            have HE : Hid (guessP s = none) := by
              show _ = _
              have h1 : gclause s p = none := by rw [hgl.out, gl_no hq hr]; rfl
              rw [HG.out, grows_none (gr_fail hrow.out h1) (by omega)]
            clear hr
            go_wp2_with (go_at_call 35; with_reducible (refine (rnum_any s q _ hs6 (by omega) n q1 false hn.out hq1.out HO3.out).mono ?_); rintro e w5 ⟨rfl, rfl⟩)
            go_ret3
            exact .inr ⟨HE.out, rfl, Below.next hbel.out hbi.out⟩
          · have HO3 := hid hr
            by_cases he : errF (vofF n) = 0
            · have he' : (errF (vofF n) != 0) = false := by simpa using he
              obtain ⟨x, hx⟩ : ∃ v, Hid (makF (vofF n) (sofF n) = v) := ⟨_, hid rfl⟩
              have HXB : Hid (0 ≤ x ∧ x ≤ 2097151) := by have := mak_fit (vofF n) (sofF n); rw [hx.out] at this; exact this
              have HGL : Hid (gclause s p = (glits s j (q1 + 1)).map (fun z => ((xs ++ [x]) ++ z.1, z.2))) := by
                show _ = _
                rw [hgl.out, gl_more hq hr hn.out hq1.out he, hx.out, Option.map_map]; congr 1; funext z; simp
              have HXF := hid (fit_snoc hxf.out HXB.out.1 HXB.out.2)
              clear hr he
              go_wp2_with (first
                | (go_at_call 35; with_reducible (refine (rnum_any s q _ hs6 (by omega) n q1 true hn.out hq1.out HO3.out).mono ?_); rintro e w5 ⟨rfl, rfl⟩)
                | (go_at_call 36; with_reducible (refine (rof_at n x _ (by omega) (by omega) hx.out).mono ?_); rintro e w6 ⟨rfl, rfl⟩)
                | (at_builtin; refine append_fresh rfl _ _ 37 3 rfl Tryd.underlying37 (.int .i64 0) 8 rfl Tryd.info3 (by omega) (.int .i64 x) rfl rfl wr.heap.size xs.length _ (intsV xs) rfl hci.out rfl (by omega) hbi.out.size ?_; intro v4 w4 hown4 hg4))
              have hg4' : World.grownBy _ w4 (Value.slice ao xs.length cap).ownBlock := hg4.out
              have hlow : ∀ i, (Value.slice ao xs.length cap).ownBlock = some i → wr.heap.size ≤ i := fun i hi => (hci.out.lt i hi).1
              have HB4 : Hid (Below wr.heap.size wr w4) := hbi.out.trans (below_own hg4' hlow hbi.out.size)
              have HO4 : Hid (w4.ownsRow wr.heap.size 3 1 v4 (xs ++ [x]).length (intsV (xs ++ [x]))) := by show World.ownsRow _ _ _ _ _ _ _; have := hown4.out; simpa [intsV] using this
              go_roundw
              case rel => exact ⟨q1 + 1, j, xs ++ [x], by go_num, by omega, by omega, by simp; omega, HO4, HB4, HGL, HXF⟩
              case measure => simp [intOf]; omega
            · have he' : (errF (vofF n) != 0) = true := by simpa using he
              obtain ⟨x, hx⟩ : ∃ v, Hid (makF (vofF n) (sofF n) = v) := ⟨_, hid rfl⟩
              have HR : Hid (grows s (p2 + 1) (k + 1) = some (ls ++ [xs], q1 + 1)) := gr_step hrow.out (by rw [hgl.out, gl_zero hq hr hn.out hq1.out he]; simp)
              clear hr he
              go_wp2_with (first
                | (go_at_call 35; with_reducible (refine (rnum_any s q _ hs6 (by omega) n q1 true hn.out hq1.out HO3.out).mono ?_); rintro e w5 ⟨rfl, rfl⟩)
                | (go_at_call 36; with_reducible (refine (rof_at n x _ (by omega) (by omega) hx.out).mono ?_); rintro e w6 ⟨rfl, rfl⟩)
                | (at_builtin; refine append_fresh rfl _ _ 22 37 rfl Tryd.underlying22 (.slice none 0 0) 24 rfl Tryd.info37 (by omega) (.slice ao xs.length cap) rfl rfl w1.heap.size vs.length _ vs rfl (own_keep hown.out hbi.out) rfl (by omega) (Nat.le_trans hbel.out.size hbi.out.size) ?_; intro v4 w4 hown4 hg4))
              have hg4' : World.grownBy _ w4 u9.ownBlock := hg4.out
              have hlow : ∀ j, u9.ownBlock = some j → w1.heap.size ≤ j := fun j hj => (hown.out.lt j hj).1
              have HB4 : Hid (Below w1.heap.size w1 w4) := (Below.next hbel.out hbi.out).trans (below_own hg4' hlow (Nat.le_trans hbel.out.size hbi.out.size))
              have HG4 : Hid (GVO w4 w1.heap.size (vs ++ [Value.slice ao xs.length cap]) (ls ++ [xs])) := ((hgv.out.keep hbi.out).snoc (own_low hci.out hbel.out.size)).app (own_keep hown.out hbi.out) hg4'
              have HO4 : Hid (w4.ownsRow w1.heap.size 37 1 v4 (vs ++ [Value.slice ao xs.length cap]).length (vs ++ [Value.slice ao xs.length cap])) := by show World.ownsRow _ _ _ _ _ _ _; have := hown4.out; simpa using this
              have HF4 : Hid (∀ x ∈ ls ++ [xs], x.length ≤ 3001 ∧ Fit x) := by
                show ∀ x ∈ _, _
                intro x hx
                rcases List.mem_append.1 hx with hx | hx
                · exact hfit.out x hx
                · rw [List.mem_singleton] at hx; subst hx; exact ⟨by omega, hxf.out⟩
              go_roundw
              case rel => exact ⟨k + 1, q1 + 1, ls ++ [xs], vs ++ [Value.slice ao xs.length cap], by omega, by go_num, by go_num, by omega, by simp [hvl], HO4, HG4, HB4, HR, HF4⟩
              case measure => simp [intOf]; omega
        · have HR : Hid (grows s (p2 + 1) (k + 1) = some (ls ++ [xs], q)) := gr_step hrow.out (by rw [hgl.out, gl_off hq]; simp)
          go_wp2_with (at_builtin; refine append_fresh rfl _ _ 22 37 rfl Tryd.underlying22 (.slice none 0 0) 24 rfl Tryd.info37 (by omega) (.slice ao xs.length cap) rfl rfl w1.heap.size vs.length _ vs rfl (own_keep hown.out hbi.out) rfl (by omega) (Nat.le_trans hbel.out.size hbi.out.size) ?_; intro v4 w4 hown4 hg4)
          have hg4' : World.grownBy _ w4 u9.ownBlock := hg4.out
          have hlow : ∀ j, u9.ownBlock = some j → w1.heap.size ≤ j := fun j hj => (hown.out.lt j hj).1
          have HB4 : Hid (Below w1.heap.size w1 w4) := (Below.next hbel.out hbi.out).trans (below_own hg4' hlow (Nat.le_trans hbel.out.size hbi.out.size))
          have HG4 : Hid (GVO w4 w1.heap.size (vs ++ [Value.slice ao xs.length cap]) (ls ++ [xs])) := ((hgv.out.keep hbi.out).snoc (own_low hci.out hbel.out.size)).app (own_keep hown.out hbi.out) hg4'
          have HO4 : Hid (w4.ownsRow w1.heap.size 37 1 v4 (vs ++ [Value.slice ao xs.length cap]).length (vs ++ [Value.slice ao xs.length cap])) := by show World.ownsRow _ _ _ _ _ _ _; have := hown4.out; simpa using this
          have HF4 : Hid (∀ x ∈ ls ++ [xs], x.length ≤ 3001 ∧ Fit x) := by
            show ∀ x ∈ _, _
            intro x hx
            rcases List.mem_append.1 hx with hx | hx
            · exact hfit.out x hx
            · rw [List.mem_singleton] at hx; subst hx; exact ⟨by omega, hxf.out⟩
          go_roundw
          case rel => exact ⟨k + 1, q, ls ++ [xs], vs ++ [Value.slice ao xs.length cap], by omega, by go_num, by go_num, by omega, by simp [hvl], HO4, HG4, HB4, HR, HF4⟩
          case measure => simp [intOf]; omega
    · obtain rfl : k = c := by omega
      have HE : Hid (guessP s = some (v, ls)) := by show _ = _; rw [HG.out, hrow.out]
      go_wp2
      go_ret3
      obtain ⟨ao, cap, e1, gr⟩ := own_grid hown.out (hgv.out.gv (fun x hx => (hfit.out x hx).2))
      have e2 : vs.length = ls.length := hgv.out.1
      refine .inl ⟨v, ls, HE.out, ao, cap, ?_, by rw [← e2]; exact gr, hbel.out, by omega, fun x hx => (hfit.out x hx).1, HVB.out⟩
      rw [← e2, ← e1]; rfl

end Go.Proofs.YtdhkabppcdnfeaaDoor
