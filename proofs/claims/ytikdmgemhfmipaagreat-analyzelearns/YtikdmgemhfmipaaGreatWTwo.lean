/-
  stands, two, seek: which literals of a clause may hold.
-/
import Derived.Test.YtikdmgemhfmipaaGreatWLooks
namespace Go.Proofs.YtikdmgemhfmipaaGreat
open Go.RowKit Go.Maps
set_option linter.unusedVariables false

def standsF (g : G) (L : List E) (c : Nat) : Bool := decide (g.a c ≠ -1 ∧ 0 ≤ valueF L (g.a c) ∧ 0 ≤ valueF L (g.b c))

def TwoR (L : List E) (xs : List Int) (a b : Int) : Prop :=
  (a = -1 ∧ b = -1 ∧ ∀ x ∈ xs, valueF L x < 0) ∨ (a ∈ xs ∧ 0 ≤ a ∧ 0 ≤ valueF L a ∧ b = -1 ∧ ∀ x ∈ xs, x ≠ a → valueF L x < 0) ∨ (a ∈ xs ∧ b ∈ xs ∧ 0 ≤ a ∧ 0 ≤ b ∧ a ≠ b ∧ 0 ≤ valueF L a ∧ 0 ≤ valueF L b)

def TwoL (L : List E) (xs : List Int) (a : Int) : Prop :=
  (a = -1 ∧ ∀ x ∈ xs, valueF L x < 0) ∨ (a ∈ xs ∧ 0 ≤ a ∧ 0 ≤ valueF L a ∧ ∀ x ∈ xs, x ≠ a → valueF L x < 0)

def SeekR (L : List E) (xs : List Int) (y z : Int) : Prop := (z = -1 ∧ ∀ x ∈ xs, x ≠ y → valueF L x < 0) ∨ (z ∈ xs ∧ 0 ≤ z ∧ z ≠ y ∧ 0 ≤ valueF L z)

theorem take_next {α : Type} {c : List α} {k : Nat} {y : α} (h : c[k]? = some y) : c.take (k + 1) = c.take k ++ [y] := by rw [List.take_add_one, h]; rfl

theorem TwoL.skip {L : List E} {xs : List Int} {q : Nat} {y a : Int} (h : TwoL L (xs.take q) a) (hy : xs[q]? = some y) (hp : 0 ≤ y) (hs : y = a ∨ valueF L y < 0) : TwoL L (xs.take (q + 1)) a := by
  rw [take_next hy]
  rcases h with ⟨h1, h2⟩ | ⟨h1, h2, h3, h4⟩
  · refine .inl ⟨h1, fun x hx => ?_⟩
    rcases List.mem_append.1 hx with h | h
    · exact h2 x h
    · rw [List.mem_singleton] at h; subst h
      rcases hs with h | h
      · omega
      · exact h
  · refine .inr ⟨List.mem_append.2 (.inl h1), h2, h3, fun x hx hne => ?_⟩
    rcases List.mem_append.1 hx with h | h
    · exact h4 x h hne
    · rw [List.mem_singleton] at h; subst h
      rcases hs with h | h
      · exact absurd h hne
      · exact h

section
variable {k : K} {kw : WK} {w : World} {g : G} {L : List E} {lev : Nat} {p : V}

theorem stands_is (j : J k kw w g L lev p) {c : Nat} (hc : c < g.nx) (hg : g.gn c = false) (ha : g.a c ≤ 9223372036854775807) (hb : g.b c ≤ 9223372036854775807) {r : Bool} (hr : standsF g L c = r) :
    Calls Tryz.prog 63 #[.pointer (some ⟨g.cb c, 0, none⟩), .pointer (some ⟨k.OB, 0, none⟩)] w fun e w' => e = .returned (.bool r) ∧ Hid (Below w.heap.size w w') := by
  obtain ⟨c0, c1, c2, c3, c4⟩ := j.s.l.ks hc hg
  have HJ := hid j
  obtain ⟨a, ea⟩ : ∃ a, g.a c = a := ⟨_, rfl⟩
  obtain ⟨b, eb⟩ : ∃ b, g.b c = b := ⟨_, rfl⟩
  obtain ⟨y, ey⟩ : ∃ y, valueF L a = y := ⟨_, rfl⟩
  obtain ⟨z, ez⟩ : ∃ z, valueF L b = z := ⟨_, rfl⟩
  unfold standsF at hr
  rw [ea, eb, ey, ez] at hr
  rw [ea] at c2 ha
  rw [eb] at c3 hb
  have HY := hid ey
  have HZ := hid ez
  clear ey ez ea eb j
  by_cases h1 : a = -1
  · subst h1
    have : r = false := by rw [← hr]; simp
    subst this
    clear hr
    go_enter Tryz.func63, Tryz.ntmps63
    go_wp2
    go_region
    all_goals go_wp2
    all_goals go_ret
    all_goals exact ⟨rfl, below_drew w⟩
  · have h1' : (a != -1) = true := by simpa using h1
    by_cases h2 : 0 ≤ y
    · by_cases h3 : 0 ≤ z
      · have : r = true := by rw [← hr]; simp [h1, h2, h3]
        subst this
        clear hr h1
        go_enter Tryz.func63, Tryz.ntmps63
        go_wp2
        go_region
        all_goals go_wp2_with (go_at_call 28; with_reducible (first | (refine (value_is (HJ.out.below (below_drew w)).t a ha HY.out).mono ?_; rintro e w2 ⟨rfl, b2⟩; have b3 := hid (Below.next (below_drew w) b2.out)) | (refine (value_is (HJ.out.below b3.out).t b hb HZ.out).mono ?_; rintro e w4 ⟨rfl, b4⟩)))
        all_goals go_ret
        all_goals exact ⟨rfl, Below.next b3.out b4.out⟩
      · have : r = false := by rw [← hr]; simp [h3]
        subst this
        have h3' : decide (0 ≤ z) = false := by simpa using h3
        clear hr h1
        go_enter Tryz.func63, Tryz.ntmps63
        go_wp2
        go_region
        all_goals go_wp2_with (go_at_call 28; with_reducible (first | (refine (value_is (HJ.out.below (below_drew w)).t a ha HY.out).mono ?_; rintro e w2 ⟨rfl, b2⟩; have b3 := hid (Below.next (below_drew w) b2.out)) | (refine (value_is (HJ.out.below b3.out).t b hb HZ.out).mono ?_; rintro e w4 ⟨rfl, b4⟩)))
        all_goals go_ret
        all_goals exact ⟨rfl, Below.next b3.out b4.out⟩
    · have : r = false := by rw [← hr]; simp [h2]
      subst this
      clear hr h1
      go_enter Tryz.func63, Tryz.ntmps63
      go_wp2
      go_region
      all_goals go_wp2_with (go_at_call 28; with_reducible (refine (value_is (HJ.out.below (below_drew w)).t a ha HY.out).mono ?_); rintro e w2 ⟨rfl, b2⟩)
      all_goals go_ret
      all_goals exact ⟨rfl, Below.next (below_drew w) b2.out⟩

theorem two_is (j : J k kw w g L lev p) {c : Nat} (hc : c < g.nx) (hg : g.gn c = false) (h0 : ∀ x ∈ g.lt c, 0 ≤ x) :
    Calls Tryz.prog 65 #[.pointer (some ⟨g.cb c, 0, none⟩), .pointer (some ⟨k.OB, 0, none⟩)] w fun e w' => ∃ a b : Int, e = .returned (.tuple #[.int .i64 a, .int .i64 b]) ∧ Hid (TwoR L (g.lt c) a b) ∧ Hid (Below w.heap.size w w') := by
  obtain ⟨c0, c1, c2, c3, c4⟩ := j.s.l.ks hc hg
  obtain ⟨ao, n, cp, ev, hrow, _⟩ := j.s.l.li c hc hg
  rw [ev] at c1
  have HJ := hid j
  have HR := hid hrow
  have hmx := hrow.max
  obtain ⟨xs, ex⟩ : ∃ xs, g.lt c = xs := ⟨_, rfl⟩
  rw [ex] at HR h0 ⊢
  have H0 := hid h0
  clear hrow j ev ex h0
  go_enter Tryz.func65, Tryz.ntmps65
  go_wp2
  go_loopw [6, 8, 14] (fun a _ i wr => ∃ (q : Nat) (x : Int), q ≤ n ∧ i = .int .i64 q ∧ a = .int .i64 x ∧ Hid (TwoL L (xs.take q) x) ∧ Hid (Below w.heap.size w wr)) (fun _ _ i _ => n - (intOf i).toNat)
  case atStart => exact ⟨0, -1, Nat.zero_le _, rfl, rfl, hid (.inl ⟨rfl, fun x hx => by simp at hx⟩), hid (Below.refl _ _)⟩
  case round =>
    obtain ⟨q, x, hq, rfl, rfl, hl, hb⟩ := hrel
    by_cases hlt : q < n
    · obtain ⟨b, off, y, rfl, hcc, hy, y0, y1⟩ := (HR.out.keep hb.out).at hlt
      obtain ⟨z, hz⟩ : ∃ z, valueF L y = z := ⟨_, rfl⟩
      have HZ := hid hz
      have hyp : 0 ≤ y := H0.out y (List.mem_of_getElem? hy.out)
      by_cases e : y = x
      · have e' : (y == x) = true := by simpa using e
        have HN := hid (hl.out.skip hy.out hyp (.inl e))
        clear e hz
        go_wp2
        go_roundw
        case rel => exact ⟨q + 1, x, by omega, by go_num, rfl, HN, hb⟩
        case measure => simp only [intOf]; omega
      · have e' : (y == x) = false := by simpa using e
        by_cases hz0 : z < 0
        · have HN := hid (hl.out.skip hy.out hyp (.inr (by rw [hz]; exact hz0)))
          clear e hz
          go_wp2_with (go_at_call 28; with_reducible (refine (value_is (HJ.out.below hb.out).t y y1 HZ.out).mono ?_); rintro e w2 ⟨rfl, b2⟩)
          go_roundw
          case rel => exact ⟨q + 1, x, by omega, by go_num, rfl, HN, hid (Below.next hb.out b2.out)⟩
          case measure => simp only [intOf]; omega
        · by_cases hx : x = -1
          · subst hx
            have HN : Hid (TwoL L (xs.take (q + 1)) y) := hid (by
              rw [take_next hy.out]
              refine .inr ⟨by simp, hyp, by rw [hz]; omega, fun u hu hne => ?_⟩
              rcases List.mem_append.1 hu with h | h
              · rcases hl.out with ⟨_, h2⟩ | ⟨_, h2, _⟩
                · exact h2 u h
                · omega
              · rw [List.mem_singleton] at h; exact absurd h hne)
            clear e hz
            go_wp2_with (go_at_call 28; with_reducible (refine (value_is (HJ.out.below hb.out).t y y1 HZ.out).mono ?_); rintro e w2 ⟨rfl, b2⟩)
            go_roundw
            case rel => exact ⟨q + 1, y, by omega, by go_num, rfl, HN, hid (Below.next hb.out b2.out)⟩
            case measure => simp only [intOf]; omega
          · have hx' : (x != -1) = true := by simpa using hx
            have HN : Hid (TwoR L xs x y) := hid (by
              rcases hl.out with ⟨h1, _⟩ | ⟨h1, h2, h3, _⟩
              · exact absurd h1 hx
              · exact .inr (.inr ⟨List.mem_of_mem_take h1, List.mem_of_getElem? hy.out, h2, hyp, fun c => e c.symm, h3, by rw [hz]; omega⟩))
            clear e hz hx
            go_wp2_with (go_at_call 28; with_reducible (refine (value_is (HJ.out.below hb.out).t y y1 HZ.out).mono ?_); rintro e w2 ⟨rfl, b2⟩)
            go_ret2
            exact ⟨x, y, rfl, HN, Below.next hb.out b2.out⟩
    · have HV : Hid (xs.take q = xs) := hid (List.take_of_length_le (by rw [HR.out.1]; omega))
      have HN : Hid (TwoR L xs x (-1)) := hid (by
        have h := hl.out
        rw [HV.out] at h
        rcases h with ⟨h1, h2⟩ | ⟨h1, h2, h3, h4⟩
        · exact .inl ⟨h1, rfl, h2⟩
        · exact .inr (.inl ⟨h1, h2, h3, rfl, h4⟩))
      go_wp2
      go_ret2
      exact ⟨x, -1, rfl, HN, hb⟩
end

end Go.Proofs.YtikdmgemhfmipaaGreat
