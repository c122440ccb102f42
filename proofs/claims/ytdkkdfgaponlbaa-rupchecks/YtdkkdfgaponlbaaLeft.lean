/-
  The document's answer: what is left of a clause; whether a literal and its Not are there.
-/
import Derived.Test.YtdkkdfgaponlbaaMem
namespace Go.Proofs.Ytdkkdfgaponlbaa
open Go.RowKit
set_option linter.unusedVariables false

def bothF (xs : List Int) : Bool := xs.any (fun x => hasF xs (notF x))

theorem both_any (ao : Option Addr) (n cap : Nat) (xs : List Int) (w : World) (h : Row w ao n cap xs) :
    Calls Try.prog 25 #[.slice ao n cap] w fun e w' => e = .returned (.bool (bothF xs)) ∧ w' = w := by
  have HR : Hid (Row w ao n cap xs) := h
  have hm := h.max
  clear h
  go_enter Try.func25, Try.ntmps25
  go_wp2
  go_loop [3] (fun i => ∃ k : Nat, k ≤ n ∧ i = .int .i64 k ∧ Hid ((xs.take k).any (fun x => hasF xs (notF x)) = false)) (fun i => n - (intOf i).toNat)
  case atStart => exact ⟨0, Nat.zero_le _, rfl, rfl⟩
  case round =>
    obtain ⟨k, hk, rfl, hno⟩ := hrel
    by_cases hlt : k < n
    · obtain ⟨b, off, y, rfl, hc, hy, _, hu⟩ := HR.out.at hlt
      cases he : hasF xs (notF y)
      · have HV : Hid ((xs.take (k + 1)).any (fun x => hasF xs (notF x)) = false) := any_step hno.out hy.out he
        go_wp2_with (first
          | (go_at_call 17; with_reducible (refine (rnot_any _ _ hu).mono ?_); rintro e w1 ⟨rfl, rfl⟩)
          | (go_at_call 38; with_reducible (refine (rhas_any _ _ _ xs _ _ HR.out).mono ?_); rintro e w2 ⟨rfl, rfl⟩))
        go_round
        case rel => exact ⟨k + 1, by omega, by go_num, HV⟩
        case measure => simp [intOf]; omega
      · have HV : Hid (bothF xs = true) := any_hit hy.out he
        go_wp2_with (first
          | (go_at_call 17; with_reducible (refine (rnot_any _ _ hu).mono ?_); rintro e w1 ⟨rfl, rfl⟩)
          | (go_at_call 38; with_reducible (refine (rhas_any _ _ _ xs _ _ HR.out).mono ?_); rintro e w2 ⟨rfl, rfl⟩))
        go_ret
        exact ⟨by rw [HV.out]; rfl, rfl⟩
    · have HV : Hid (bothF xs = false) := any_end hno.out (by rw [HR.out.1]; omega)
      go_wp2
      go_ret
      exact ⟨by rw [HV.out]; rfl, rfl⟩

/-- Of a clause the literals that may hold. -/
def leftF (c now : List Int) : List Int := (dd c).filter (fun y => !hasF now (notF y))
def metF (c now : List Int) : Bool := c.any (fun y => decide (0 ≤ y) && hasF now y)

theorem left_neg {c now : List Int} {x : Int} (h : x < 0) : leftF (c ++ [x]) now = leftF c now := by
  rw [leftF, dd_snoc, add_skip (.inl h)]; rfl
theorem left_not {c now : List Int} {x : Int} (h : hasF now (notF x) = true) : leftF (c ++ [x]) now = leftF c now := by
  rw [leftF, dd_snoc]
  by_cases hd : x < 0 ∨ x ∈ dd c
  · rw [add_skip hd]; rfl
  · rw [add_new (fun e => hd (.inl e)) (fun e => hd (.inr e)), List.filter_append]
    simp [h, leftF]
theorem left_has {c now : List Int} {x : Int} (h : hasF (leftF c now) x = true) : leftF (c ++ [x]) now = leftF c now := by
  have hx : x ∈ leftF c now := (hasF_mem _ _).1 h
  rw [leftF, dd_snoc, add_skip (.inr (List.mem_filter.1 hx).1)]; rfl
theorem left_new {c now : List Int} {x : Int} (h0 : ¬ x < 0) (h1 : hasF now (notF x) = false) (h2 : hasF (leftF c now) x = false) : leftF (c ++ [x]) now = leftF c now ++ [x] := by
  have hd : x ∉ dd c := fun hx => by
    have : hasF (leftF c now) x = true := (hasF_mem _ _).2 (List.mem_filter.2 ⟨hx, by simp [h1]⟩)
    rw [h2] at this; cases this
  rw [leftF, dd_snoc, add_new h0 hd, List.filter_append]
  simp [h1, leftF]

theorem left_len (c now : List Int) : (leftF c now).length ≤ c.length := Nat.le_trans (List.length_filter_le _ _) (dd_len c)

theorem take_next {c : List Int} {k : Nat} {y : Int} (h : c[k]? = some y) : c.take (k + 1) = c.take k ++ [y] := by rw [List.take_add_one, h]; rfl

def LeftEnd (w : World) (c now : List Int) (e : Ending) (w' : World) : Prop :=
  (metF c now = true ∧ e = .returned (.tuple #[.slice none 0 0, .bool true]) ∧ Below w.heap.size w w') ∨
  (metF c now = false ∧ ∃ ao m cp, e = .returned (.tuple #[.slice ao m cp, .bool false]) ∧ Row w' ao m cp (leftF c now) ∧ Below w.heap.size w w')

set_option maxHeartbeats 2000000 in
theorem left_any (w : World) (ao : Option Addr) (n cap : Nat) (c : List Int) (hr : Row w ao n cap c) (bo : Option Addr) (m cbp : Nat) (now : List Int) (hb : Row w bo m cbp now) (hn : n ≤ 1000) :
    Calls Try.prog 26 #[.slice ao n cap, .slice bo m cbp] w fun e w' => LeftEnd w c now e w' := by
  have HR := hid hr
  have HB := hid hb
  have hm := hr.max
  clear hr hb
  go_enter Try.func26, Try.ntmps26
  go_wp2
  go_loopw [6, 7] (fun v i wr => ∃ q : Nat, q ≤ n ∧ i = .int .i64 q ∧ Hid (Own wr w.heap.size v (leftF (c.take q) now)) ∧ Hid (metF (c.take q) now = false) ∧ Below w.heap.size w wr) (fun _ i _ => n - (intOf i).toNat)
  case atStart => exact ⟨0, Nat.zero_le _, rfl, Own.nil _ _, rfl, Below.refl _ _⟩
  case round =>
    obtain ⟨q, hq, rfl, hown, hno, hb⟩ := hrel
    by_cases hlt : q < n
    · obtain ⟨b, off, y, rfl, hc, hy, y0, y1⟩ := (HR.out.keep hb).at hlt
      have HTN := hid (take_next hy.out)
      have HB2 := hid (HB.out.keep hb)
      by_cases hneg : y < 0
      · have HE : Hid (leftF (c.take (q + 1)) now = leftF (c.take q) now) := hid (by rw [HTN.out, left_neg hneg])
        have HN : Hid (metF (c.take (q + 1)) now = false) := any_step hno.out hy.out (by simp; omega)
        go_wp2
        go_roundw
        case rel => exact ⟨q + 1, by omega, by go_num, hid (by rw [HE.out]; exact hown.out), HN, hb⟩
        case measure => simp [intOf]; omega
      · have hpos : 0 ≤ y := by omega
        cases hmet : hasF now y
        · have HN : Hid (metF (c.take (q + 1)) now = false) := any_step hno.out hy.out (by simp [hmet])
          cases hnot : hasF now (notF y)
          · obtain ⟨ao6, n6, c6, rfl, hrow6⟩ := hown.out.shape
            cases hin : hasF (leftF (c.take q) now) y
            · have HE : Hid (leftF (c.take (q + 1)) now = leftF (c.take q) now ++ [y]) := hid (by rw [HTN.out, left_new (by omega) hnot hin])
              have HLen : (leftF (c.take q) now).length ≤ 1000 := by have := left_len (c.take q) now; simp at this; omega
              have hs := hb.size
              go_wp2_with (first
                | (go_at_call 17; with_reducible (refine (rnot_any _ _ y1).mono ?_); rintro e w1 ⟨rfl, rfl⟩)
                | (go_at_call 38; first
                  | (with_reducible (refine (rhas_any bo m cbp now _ _ HB2.out).mono ?_); rintro e w2 ⟨rfl, rfl⟩)
                  | (with_reducible (refine (rhas_any ao6 n6 c6 _ _ _ hrow6.out).mono ?_); rintro e w3 ⟨rfl, rfl⟩))
                | (at_builtin; refine append_ints rfl _ _ rfl w.heap.size _ _ [y] rfl (hown.out.alloc _) _ 1 1 rfl (row_one _ y y0 y1) (by omega) (by simp; omega) ?_; intro v4 w4 hown4 hb4))
              go_roundw
              case rel => exact ⟨q + 1, by omega, by go_num, hid (by rw [HE.out]; exact hown4.out), HN, (hb.alloc hb.size _).trans hb4.out⟩
              case measure => simp [intOf]; omega
            · have HE : Hid (leftF (c.take (q + 1)) now = leftF (c.take q) now) := hid (by rw [HTN.out, left_has hin])
              go_wp2_with (first
                | (go_at_call 17; with_reducible (refine (rnot_any _ _ y1).mono ?_); rintro e w1 ⟨rfl, rfl⟩)
                | (go_at_call 38; first
                  | (with_reducible (refine (rhas_any bo m cbp now _ _ HB2.out).mono ?_); rintro e w2 ⟨rfl, rfl⟩)
                  | (with_reducible (refine (rhas_any ao6 n6 c6 _ _ _ hrow6.out).mono ?_); rintro e w3 ⟨rfl, rfl⟩)))
              go_roundw
              case rel => exact ⟨q + 1, by omega, by go_num, hid (by rw [HE.out]; exact hown.out), HN, hb⟩
              case measure => simp [intOf]; omega
          · have HE : Hid (leftF (c.take (q + 1)) now = leftF (c.take q) now) := hid (by rw [HTN.out, left_not hnot])
            go_wp2_with (first
              | (go_at_call 17; with_reducible (refine (rnot_any _ _ y1).mono ?_); rintro e w1 ⟨rfl, rfl⟩)
              | (go_at_call 38; with_reducible (refine (rhas_any bo m cbp now _ _ HB2.out).mono ?_); rintro e w2 ⟨rfl, rfl⟩))
            go_roundw
            case rel => exact ⟨q + 1, by omega, by go_num, hid (by rw [HE.out]; exact hown.out), HN, hb⟩
            case measure => simp [intOf]; omega
        · have HV : Hid (metF c now = true) := any_hit hy.out (by simp [hmet, hpos])
          go_wp2_with (go_at_call 38; with_reducible (refine (rhas_any _ _ _ now _ _ HB2.out).mono ?_); rintro e w1 ⟨rfl, rfl⟩)
          go_ret2
          exact .inl ⟨HV.out, rfl, hb⟩
    · have HV : Hid (c.take q = c) := List.take_of_length_le (by rw [HR.out.1]; omega)
      obtain ⟨ao6, n6, c6, rfl, hrow6⟩ := hown.out.shape
      go_wp2
      go_ret2
      exact .inr ⟨by rw [← HV.out]; exact hno.out, ao6, n6, c6, rfl, by rw [← HV.out]; exact hrow6.out, hb⟩

end Go.Proofs.Ytdkkdfgaponlbaa
