/-
  stands, two, seek: which literals of a clause may hold.
  Marks in an array of pages; the level of a variable.
-/
import Derived.Test.YtimfjoinjfecjaaGreatQ05
import Derived.Test.YtimfjoinjfecjaaGreatQ01
import Derived.RangeFuncCalls

namespace Go.Proofs.YtimfjoinjfecjaaGreat
open Go.RowKit Go.Maps
set_option linter.unusedVariables false

def standsF (g : G) (L : List E) (c : Nat) : Bool := decide (g.a c ≠ -1 ∧ 0 ≤ valueF L (g.a c) ∧ 0 ≤ valueF L (g.b c))

def TwoR (L : List E) (xs : List Int) (a b : Int) : Prop :=
  (a = -1 ∧ b = -1 ∧ ∀ x ∈ xs, valueF L x < 0) ∨ (a ∈ xs ∧ 0 ≤ a ∧ 0 ≤ valueF L a ∧ b = -1 ∧ ∀ x ∈ xs, x ≠ a → valueF L x < 0) ∨ (a ∈ xs ∧ b ∈ xs ∧ 0 ≤ a ∧ 0 ≤ b ∧ a ≠ b ∧ 0 ≤ valueF L a ∧ 0 ≤ valueF L b)

def TwoL (L : List E) (xs : List Int) (a : Int) : Prop :=
  (a = -1 ∧ ∀ x ∈ xs, valueF L x < 0) ∨ (a ∈ xs ∧ 0 ≤ a ∧ 0 ≤ valueF L a ∧ ∀ x ∈ xs, x ≠ a → valueF L x < 0)

def SeekR (L : List E) (xs : List Int) (y z : Int) : Prop := (z = -1 ∧ ∀ x ∈ xs, x ≠ y → valueF L x < 0) ∨ (z ∈ xs ∧ 0 ≤ z ∧ z ≠ y ∧ 0 ≤ valueF L z)

theorem take_next {α : Type} {c : List α} {k : Nat} {y : α} (h : c[k]? = some y) : c.take (k + 1) = c.take k ++ [y] := by rw [List.take_add_one, h]; rfl

theorem TwoL.skip {L : List E} {xs : List Int} {q : Nat} {y a : Int} (h : TwoL L (xs.take q) a) (hy : xs[q]? = some y) (hp : 0 ≤ y) (hs : y = a ∨ valueF L y < 0) : TwoL L (xs.take (q + 1)) a := by
  rw [take_next hy]
  rcases h with ⟨h1, h2⟩ | ⟨h1, h2, h3, h4⟩
  · refine .inl ⟨h1, fun x hx => ?_⟩
    rcases List.mem_append.1 hx with h | h
    · exact h2 x h
    · rw [List.mem_singleton] at h; subst h
      rcases hs with h | h
      · omega
      · exact h
  · refine .inr ⟨List.mem_append.2 (.inl h1), h2, h3, fun x hx hne => ?_⟩
    rcases List.mem_append.1 hx with h | h
    · exact h4 x h hne
    · rw [List.mem_singleton] at h; subst h
      rcases hs with h | h
      · exact absurd h hne
      · exact h

section
variable {k : K} {kw : WK} {w : World} {g : G} {L : List E} {lev : Nat} {p : V}

theorem stands_is (j : J k kw w g L lev p) {c : Nat} (hc : c < g.nx) (hg : g.gn c = false) (ha : g.a c ≤ 9223372036854775807) (hb : g.b c ≤ 9223372036854775807) {r : Bool} (hr : standsF g L c = r) :
    Calls Tryz.prog 110 #[.pointer (some ⟨g.cb c, 0, none⟩), .pointer (some ⟨k.OB, 0, none⟩)] w fun e w' => e = .returned (.bool r) ∧ Hid (Below w.heap.size w w') := by
  obtain ⟨c0, c1, c2, c3, c4⟩ := j.s.l.ks hc hg
  have HJ := hid j
  obtain ⟨a, ea⟩ : ∃ a, g.a c = a := ⟨_, rfl⟩
  obtain ⟨b, eb⟩ : ∃ b, g.b c = b := ⟨_, rfl⟩
  obtain ⟨y, ey⟩ : ∃ y, valueF L a = y := ⟨_, rfl⟩
  obtain ⟨z, ez⟩ : ∃ z, valueF L b = z := ⟨_, rfl⟩
  unfold standsF at hr
  rw [ea, eb, ey, ez] at hr
  rw [ea] at c2 ha
  rw [eb] at c3 hb
  have HY := hid ey
  have HZ := hid ez
  clear ey ez ea eb j
  by_cases h1 : a = -1
  · subst h1
    have : r = false := by rw [← hr]; simp
    subst this
    clear hr
    go_enter Tryz.func110, Tryz.ntmps110
    go_wp2
    go_region
    all_goals go_wp2
    all_goals go_ret
    all_goals exact ⟨rfl, below_drew w⟩
  · have h1' : (a != -1) = true := by simpa using h1
    by_cases h2 : 0 ≤ y
    · by_cases h3 : 0 ≤ z
      · have : r = true := by rw [← hr]; simp [h1, h2, h3]
        subst this
        clear hr h1
        go_enter Tryz.func110, Tryz.ntmps110
        go_wp2
        go_region
        all_goals go_wp2_with (go_at_call 138; with_reducible (first | (refine (value_is (HJ.out.below (below_drew w)).t a ha HY.out).mono ?_; rintro e w2 ⟨rfl, b2⟩; have b3 := hid (Below.next (below_drew w) b2.out)) | (refine (value_is (HJ.out.below b3.out).t b hb HZ.out).mono ?_; rintro e w4 ⟨rfl, b4⟩)))
        all_goals go_ret
        all_goals exact ⟨rfl, Below.next b3.out b4.out⟩
      · have : r = false := by rw [← hr]; simp [h3]
        subst this
        have h3' : decide (0 ≤ z) = false := by simpa using h3
        clear hr h1
        go_enter Tryz.func110, Tryz.ntmps110
        go_wp2
        go_region
        all_goals go_wp2_with (go_at_call 138; with_reducible (first | (refine (value_is (HJ.out.below (below_drew w)).t a ha HY.out).mono ?_; rintro e w2 ⟨rfl, b2⟩; have b3 := hid (Below.next (below_drew w) b2.out)) | (refine (value_is (HJ.out.below b3.out).t b hb HZ.out).mono ?_; rintro e w4 ⟨rfl, b4⟩)))
        all_goals go_ret
        all_goals exact ⟨rfl, Below.next b3.out b4.out⟩
    · have : r = false := by rw [← hr]; simp [h2]
      subst this
      clear hr h1
      go_enter Tryz.func110, Tryz.ntmps110
      go_wp2
      go_region
      all_goals go_wp2_with (go_at_call 138; with_reducible (refine (value_is (HJ.out.below (below_drew w)).t a ha HY.out).mono ?_); rintro e w2 ⟨rfl, b2⟩)
      all_goals go_ret
      all_goals exact ⟨rfl, Below.next (below_drew w) b2.out⟩

theorem two_is (j : J k kw w g L lev p) {c : Nat} (hc : c < g.nx) (hg : g.gn c = false) (h0 : ∀ x ∈ g.lt c, 0 ≤ x) :
    Calls Tryz.prog 112 #[.pointer (some ⟨g.cb c, 0, none⟩), .pointer (some ⟨k.OB, 0, none⟩)] w fun e w' => ∃ a b : Int, e = .returned (.tuple #[.int .i64 a, .int .i64 b]) ∧ Hid (TwoR L (g.lt c) a b) ∧ Hid (Below w.heap.size w w') := by
  obtain ⟨c0, c1, c2, c3, c4⟩ := j.s.l.ks hc hg
  obtain ⟨ao, n, cp, ev, hrow, _⟩ := j.s.l.li c hc hg
  rw [ev] at c1
  have HJ := hid j
  have HR := hid hrow
  have hmx := hrow.max
  obtain ⟨xs, ex⟩ : ∃ xs, g.lt c = xs := ⟨_, rfl⟩
  rw [ex] at HR h0 ⊢
  have H0 := hid h0
  clear hrow j ev ex h0
  go_enter Tryz.func112, Tryz.ntmps112
  go_wp2
  go_loopw [6, 8, 14] (fun a _ i wr => ∃ (q : Nat) (x : Int), q ≤ n ∧ i = .int .i64 q ∧ a = .int .i64 x ∧ Hid (TwoL L (xs.take q) x) ∧ Hid (Below w.heap.size w wr)) (fun _ _ i _ => n - (intOf i).toNat)
  case atStart => exact ⟨0, -1, Nat.zero_le _, rfl, rfl, hid (.inl ⟨rfl, fun x hx => by simp at hx⟩), hid (Below.refl _ _)⟩
  case round =>
    obtain ⟨q, x, hq, rfl, rfl, hl, hb⟩ := hrel
    by_cases hlt : q < n
    · obtain ⟨b, off, y, rfl, hcc, hy, y0, y1⟩ := (HR.out.keep hb.out).at hlt
      obtain ⟨z, hz⟩ : ∃ z, valueF L y = z := ⟨_, rfl⟩
      have HZ := hid hz
      have hyp : 0 ≤ y := H0.out y (List.mem_of_getElem? hy.out)
      by_cases e : y = x
      · have e' : (y == x) = true := by simpa using e
        have HN := hid (hl.out.skip hy.out hyp (.inl e))
        clear e hz
        go_wp2
        go_roundw
        case rel => exact ⟨q + 1, x, by omega, by go_num, rfl, HN, hb⟩
        case measure => simp only [intOf]; omega
      · have e' : (y == x) = false := by simpa using e
        by_cases hz0 : z < 0
        · have HN := hid (hl.out.skip hy.out hyp (.inr (by rw [hz]; exact hz0)))
          clear e hz
          go_wp2_with (go_at_call 138; with_reducible (refine (value_is (HJ.out.below hb.out).t y y1 HZ.out).mono ?_); rintro e w2 ⟨rfl, b2⟩)
          go_roundw
          case rel => exact ⟨q + 1, x, by omega, by go_num, rfl, HN, hid (Below.next hb.out b2.out)⟩
          case measure => simp only [intOf]; omega
        · by_cases hx : x = -1
          · subst hx
            have HN : Hid (TwoL L (xs.take (q + 1)) y) := hid (by
              rw [take_next hy.out]
              refine .inr ⟨by simp, hyp, by rw [hz]; omega, fun u hu hne => ?_⟩
              rcases List.mem_append.1 hu with h | h
              · rcases hl.out with ⟨_, h2⟩ | ⟨_, h2, _⟩
                · exact h2 u h
                · omega
              · rw [List.mem_singleton] at h; exact absurd h hne)
            clear e hz
            go_wp2_with (go_at_call 138; with_reducible (refine (value_is (HJ.out.below hb.out).t y y1 HZ.out).mono ?_); rintro e w2 ⟨rfl, b2⟩)
            go_roundw
            case rel => exact ⟨q + 1, y, by omega, by go_num, rfl, HN, hid (Below.next hb.out b2.out)⟩
            case measure => simp only [intOf]; omega
          · have hx' : (x != -1) = true := by simpa using hx
            have HN : Hid (TwoR L xs x y) := hid (by
              rcases hl.out with ⟨h1, _⟩ | ⟨h1, h2, h3, _⟩
              · exact absurd h1 hx
              · exact .inr (.inr ⟨List.mem_of_mem_take h1, List.mem_of_getElem? hy.out, h2, hyp, fun c => e c.symm, h3, by rw [hz]; omega⟩))
            clear e hz hx
            go_wp2_with (go_at_call 138; with_reducible (refine (value_is (HJ.out.below hb.out).t y y1 HZ.out).mono ?_); rintro e w2 ⟨rfl, b2⟩)
            go_ret2
            exact ⟨x, y, rfl, HN, Below.next hb.out b2.out⟩
    · have HV : Hid (xs.take q = xs) := hid (List.take_of_length_le (by rw [HR.out.1]; omega))
      have HN : Hid (TwoR L xs x (-1)) := hid (by
        have h := hl.out
        rw [HV.out] at h
        rcases h with ⟨h1, h2⟩ | ⟨h1, h2, h3, h4⟩
        · exact .inl ⟨h1, rfl, h2⟩
        · exact .inr (.inl ⟨h1, h2, h3, rfl, h4⟩))
      go_wp2
      go_ret2
      exact ⟨x, -1, rfl, HN, hb⟩
end

end Go.Proofs.YtimfjoinjfecjaaGreat

namespace Go.Proofs.YtimfjoinjfecjaaGreat
open Go.RowKit
set_option linter.unusedVariables false

def upN (f : Nat → Nat) (v k : Nat) : Nat → Nat := fun i => if i = v then k else f i

theorem upN_same (f : Nat → Nat) (v k : Nat) : upN f v k v = k := by simp [upN]
theorem upN_ne (f : Nat → Nat) {v i : Nat} (k : Nat) (h : i ≠ v) : upN f v k i = f i := by simp [upN, h]

def ptrO (pb : Option Nat) : Value := .pointer (pb.map (fun b => ⟨b, 0, none⟩))

/-- What a page tells of the numbers below 4096. -/
def Pg (w : World) : Option Nat → (Nat → Nat) → Prop
  | none, mk => ∀ i, i < 4096 → mk i = 0
  | some b, mk => ∃ pc, w.heap[b]? = some (.cells pc 160 (0, 0)) ∧ ∀ i, i < 4096 → pc[i]? = some (.int .u8 (mk i))

theorem Pg.keep {w w' : World} {pb : Option Nat} {mk : Nat → Nat} (h : Pg w pb mk) (e : ∀ b, pb = some b → w'.heap[b]? = w.heap[b]?) : Pg w' pb mk := by
  cases pb with
  | none => exact h
  | some b => obtain ⟨pc, h1, h2⟩ := h; exact ⟨pc, by rw [e b rfl]; exact h1, h2⟩

theorem quo0 {i : Nat} (hi : i < 4096) : (i : Int).tdiv 4096 = 0 := by rw [Int.tdiv_eq_ediv_of_nonneg (by omega)]; omega
theorem rem0 {i : Nat} (hi : i < 4096) : (i : Int).tmod 4096 = i := by rw [Int.tmod_eq_emod_of_nonneg (by omega)]; omega

theorem of_is {w : World} {MB off : Nat} {pb : Option Nat} {mk : Nat → Nat} (hc : w.cell? ⟨MB, off, none⟩ = some (ptrO pb)) (hp : Pg w pb mk) (i : Nat) (hi : i < 4096) {y : Int} (hy : (mk i : Int) = y) :
    Calls Tryz.prog 90 #[.pointer (some ⟨MB, off, none⟩), .int .i64 i] w fun e w' => e = .returned (.int .u8 y) ∧ w' = w := by
  subst hy
  have h1 := quo0 hi
  have h2 := rem0 hi
  cases pb with
  | none =>
    have hc2 : w.cell? ⟨MB, off, none⟩ = some (.pointer none) := hc
    rw [hp i hi]
    clear hc
    go_enter Tryz.func90, Tryz.ntmps90
    go_wp2
    go_ret
    exact ⟨rfl, rfl⟩
  | some b =>
    obtain ⟨pc, hb, h⟩ := hp
    have hc1 : w.cell? ⟨MB, off, none⟩ = some (.pointer (some ⟨b, 0, none⟩)) := hc
    have hc2 : w.cell? ⟨b, i, none⟩ = some (.int .u8 (mk i)) := by rw [cell_of hb]; exact h i hi
    have h3 : (i : Int) < 4096 := by omega
    clear h hb hc
    go_enter Tryz.func90, Tryz.ntmps90
    go_wp2
    go_ret
    exact ⟨rfl, rfl⟩

theorem zero_page (i : Nat) (hi : i < 4096) : Tryz.zeroCells160[i]? = some (.int .u8 0) := by
  have h : Tryz.zeroCells160.toList = List.replicate 4096 (.int .u8 0) := by kernel_rfl
  rw [← Array.getElem?_toList, h, List.getElem?_replicate, if_pos hi]

/-- A mark is set. -/
structure MarkEnd (w : World) (MB off : Nat) (T : TypeId) (cs : Array Value) (pb : Option Nat) (mk : Nat → Nat) (i k : Nat) (pb' : Option Nat) (cs' : Array Value) (w' : World) : Prop where
  blk : w'.heap[MB]? = some (.cells cs' T (0, 0))
  ptr : cs'[off]? = some (ptrO pb')
  oth : ∀ o, o ≠ off → cs'[o]? = cs[o]?
  pg : Pg w' pb' (upN mk i k)
  nw : pb' = pb ∨ pb' = some w.heap.size
  os : w'.os = w.os
  tape : w'.tape = w.tape
  output : w'.output = w.output
  size : w.heap.size ≤ w'.heap.size
  block : ∀ j, j < w.heap.size → j ≠ MB → pb ≠ some j → w'.heap[j]? = w.heap[j]?
  ko : KeepsOthers w w'

theorem set_is {w : World} {MB off : Nat} {T : TypeId} {cs : Array Value} {pb : Option Nat} {mk : Nat → Nat} (hb : w.heap[MB]? = some (.cells cs T (0, 0))) (hc : cs[off]? = some (ptrO pb)) (hp : Pg w pb mk) (hm : ∀ b, pb = some b → b ≠ MB) (i : Nat) (hi : i < 4096) (k : Nat) {y : Int} (hy : (k : Int) = y) :
    Calls Tryz.prog 91 #[.pointer (some ⟨MB, off, none⟩), .int .i64 i, .int .u8 y] w fun e w' => e = .returned (.tuple #[]) ∧ ∃ pb' cs', Hid (MarkEnd w MB off T cs pb mk i k pb' cs' w') := by
  subst hy
  have h1 := quo0 hi
  have h2 := rem0 hi
  have h3 : (i : Int) < 4096 := by omega
  have hMB := blk_lt hb
  have hf : w.frozen? ⟨MB, off, none⟩ = false := frozen_of hb
  cases pb with
  | none =>
    have c1 : w.cell? ⟨MB, off, none⟩ = some (.pointer none) := by rw [cell_of hb]; exact hc
    have HB := hid hb
    have HC := hid hc
    have HP := hid hp
    clear hb hc hp hm
    go_enter Tryz.func91, Tryz.ntmps91
    go_wp2
    go_end0
    refine ⟨rfl, some w.heap.size, cs.setIfInBounds off (ptrO (some w.heap.size)), hid ?_⟩
    have hsz : (w.setCell ⟨MB, off, none⟩ (.pointer (some ⟨w.heap.size, 0, none⟩))).heap.size = w.heap.size := by simp [World.setCell]
    have hol : off < cs.size := (Array.getElem?_eq_some_iff.1 HC.out).1
    have hk : ∀ j, j < w.heap.size → ((w.setCell ⟨MB, off, none⟩ (.pointer (some ⟨w.heap.size, 0, none⟩))).alloc (.cells (Tryz.zeroCells160.setIfInBounds i (.int .u8 k)) 160)).heap[j]? = (w.setCell ⟨MB, off, none⟩ (.pointer (some ⟨w.heap.size, 0, none⟩))).heap[j]? := fun j hj => heap_alloc_old _ _ (by rw [hsz]; exact hj)
    refine ⟨?_, ?_, ?_, ?_, .inr rfl, rfl, rfl, rfl, ?_, ?_, ?_⟩
    · rw [hk MB hMB]; exact set_same HB.out _
    · simp [hol]
    · intro o ho; rw [Array.getElem?_setIfInBounds_ne (fun c => ho c.symm)]
    · refine ⟨Tryz.zeroCells160.setIfInBounds i (.int .u8 k), ?_, fun o ho => ?_⟩
      · have := new_same (w.setCell ⟨MB, off, none⟩ (.pointer (some ⟨w.heap.size, 0, none⟩))) (.cells (Tryz.zeroCells160.setIfInBounds i (.int .u8 k)) 160)
        rw [hsz] at this
        exact this
      · rw [Array.getElem?_setIfInBounds]
        have hz := zero_page o ho
        have hl := (Array.getElem?_eq_some_iff.1 hz).1
        by_cases c : i = o
        · subst c; rw [if_pos rfl, if_pos hl, upN_same]
        · rw [if_neg c, hz, upN_ne _ _ (fun e => c e.symm), HP.out o ho]; rfl
    · simp [World.setCell]
    · intro j hj hne _; rw [hk j hj]; exact set_other _ hne
    · exact (KeepsOthers.setCell _ _ _).trans (KeepsOthers.alloc _ _)
  | some b =>
    obtain ⟨pc, hbp, h⟩ := hp
    have c1 : w.cell? ⟨MB, off, none⟩ = some (.pointer (some ⟨b, 0, none⟩)) := by rw [cell_of hb]; exact hc
    have c2 : w.cell? ⟨b, i, none⟩ = some (.int .u8 (mk i)) := by rw [cell_of hbp]; exact h i hi
    have f2 : w.frozen? ⟨b, i, none⟩ = false := frozen_of hbp
    have hne := hm b rfl
    have HB := hid hb
    have HC := hid hc
    have HP := hid hbp
    have H := hid h
    clear hb hc hbp h hm
    go_enter Tryz.func91, Tryz.ntmps91
    go_wp2
    go_end0
    refine ⟨rfl, some b, cs, hid ⟨?_, HC.out, fun _ _ => rfl, ?_, .inl rfl, rfl, rfl, rfl, by simp [World.setCell], ?_, KeepsOthers.setCell _ _ _⟩⟩
    · rw [set_other _ (fun c => hne c.symm)]; exact HB.out
    · refine ⟨_, set_same HP.out _, fun o ho => ?_⟩
      rw [Array.getElem?_setIfInBounds]
      have hl := (Array.getElem?_eq_some_iff.1 (H.out o ho)).1
      by_cases c : i = o
      · subst c; rw [if_pos rfl, if_pos hl, upN_same]
      · rw [if_neg c, H.out o ho, upN_ne _ _ (fun e => c e.symm)]
    · intro j hj _ hb2; exact set_other _ (fun c => hb2 (by rw [c]))

section
variable {k : K} {w : World} {F : Nat → Fc} {ls ss : List Int} {p : V}
theorem level_no (s : Raw k w F ls ss p) (v : Int) (h : isF k.n v = false) : Calls Tryz.prog 88 #[.pointer (some ⟨k.OB, 0, none⟩), .int .i64 v] w fun e w' => e = .returned (.int .i64 (-1)) ∧ w' = w := by
  have HS := hid s
  clear s
  go_enter Tryz.func88, Tryz.ntmps88
  go_wp2_with (go_at_call 128; with_reducible (refine (assigned_no HS.out _ h).mono ?_); rintro e w ⟨rfl, rfl⟩)
  go_ret
  exact ⟨rfl, rfl⟩

theorem level_yes (s : Raw k w F ls ss p) (v : Nat) (h : v < k.n) {y : Int} (hy : ((F v).v = 0 ∧ y = -1) ∨ ((F v).v ≠ 0 ∧ y = (F v).g)) : Calls Tryz.prog 88 #[.pointer (some ⟨k.OB, 0, none⟩), .int .i64 v] w fun e w' => e = .returned (.int .i64 y) ∧ w' = w := by
  have HS := hid s
  obtain ⟨x, hx⟩ : ∃ x, (F v).v = x := ⟨_, rfl⟩
  have HX := hid hx
  rw [hx] at hy
  have c0 := s.c0
  have fa := (s.fa h).2.1
  have h' : (v : Int) < k.n := by omega
  clear s hx
  rcases hy with ⟨hz, rfl⟩ | ⟨hz, hy⟩
  · have hz' : (x != 0) = false := by simpa using hz
    clear hz
    go_enter Tryz.func88, Tryz.ntmps88
    go_wp2_with (go_at_call 128; with_reducible (refine (assigned_yes HS.out _ h HX.out).mono ?_); rintro e w ⟨rfl, rfl⟩)
    go_ret
    exact ⟨rfl, rfl⟩
  · have hz' : (x != 0) = true := by simpa using hz
    rw [← hy] at fa
    clear hz hy
    go_enter Tryz.func88, Tryz.ntmps88
    go_wp2_with (go_at_call 128; with_reducible (refine (assigned_yes HS.out _ h HX.out).mono ?_); rintro e w ⟨rfl, rfl⟩)
    go_ret
    exact ⟨rfl, rfl⟩
end

section
variable {k : K} {w : World} {L : List E} {lev : Nat} {p : V}
theorem level_is (t : Trl k w L lev p) (v : Int) {y : Int} (hy : levelF L v = y) : Calls Tryz.prog 88 #[.pointer (some ⟨k.OB, 0, none⟩), .int .i64 v] w fun e w' => e = .returned (.int .i64 y) ∧ w' = w := by
  obtain ⟨F, S, s, g, _⟩ := t
  subst hy
  cases hi : isF k.n v
  · rw [(g.lookOut (v := v) (by simp [isF] at hi; omega)).1]; exact level_no s v hi
  · obtain ⟨u, rfl, hu⟩ := isF_yes hi
    refine level_yes s u hu ?_
    rcases g.look hu with ⟨h1, h2, _⟩ | ⟨h1, h2, _⟩
    · exact .inl ⟨h1, h2⟩
    · exact .inr ⟨h1, h2⟩
end

end Go.Proofs.YtimfjoinjfecjaaGreat
