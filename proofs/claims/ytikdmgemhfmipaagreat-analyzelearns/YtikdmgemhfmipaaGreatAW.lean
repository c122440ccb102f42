/-
  The document's Step; few clauses.
-/
import Derived.Test.YtikdmgemhfmipaaGreatMU2
namespace Go.Proofs.YtikdmgemhfmipaaGreat.U
open Go.RowKit
set_option linter.unusedVariables false

theorem map_next {c : List Int} {k : Nat} {y : Int} (h : c[k]? = some y) : (c.take (k + 1)).map notF = (c.take k).map notF ++ [notF y] := by
  rw [List.take_add_one, h]; simp

theorem fit_not {x : Int} (h0 : -9223372036854775808 ≤ x) (h1 : x ≤ 9223372036854775807) : -9223372036854775808 ≤ notF x ∧ notF x ≤ 9223372036854775807 := by
  by_cases h : 0 ≤ x
  · exact ⟨by have := not_pos h; omega, not_max h h1⟩
  · rw [not_neg (by omega)]; exact ⟨h0, h1⟩

theorem res_iff {L : List (List Int)} {S xs : List Int} {ok : Bool} (h : Res L S xs ok) : ok = false ↔ Bad L S := by
  rcases h with ⟨rfl, _, h⟩ | ⟨rfl, h, _⟩
  · exact ⟨fun _ => h, fun _ => rfl⟩
  · exact ⟨fun e => (by cases e), fun g => absurd g h⟩

theorem rclose_b (w : World) (la : Option Addr) (n cap : Nat) (L : List (List Int)) (gr : Grid w la n cap L) (sa : Option Addr) (sn scap : Nat) (S : List Int) (hr : Row w sa sn scap S) (hn : n ≤ 100) (hs : sn ≤ 1000) (hl : ∀ c ∈ L, c.length ≤ 100) :
    Calls Tryz.prog 49 #[.slice la n cap, .slice sa sn scap] w fun e w' => ∃ (ao : Option Addr) (m c : Nat) (ok : Bool), e = .returned (.tuple #[.slice ao m c, .bool ok]) ∧ Hid (ok = false ↔ Bad L S) ∧ Hid (Below w.heap.size w w') := by
  refine (rclose_any w la n cap L gr sa sn scap S hr hn hs hl).mono fun e w' he => ?_
  obtain ⟨ao, m, c, xs, ok, h1, h2, h3, h4⟩ := he
  exact ⟨ao, m, c, ok, h1, res_iff h3, h4⟩

theorem flip_iff {ok : Bool} {p : Prop} (h : ok = false ↔ p) : (!ok) = true ↔ p := by
  rw [← h]; cases ok <;> simp

/-- A clause follows at once. -/
def Stp (L : List (List Int)) (c : List Int) : Prop := Bad L (c.map notF)

set_option maxHeartbeats 1000000 in
theorem rstep_any (w : World) (la : Option Addr) (n cap : Nat) (L : List (List Int)) (gr : Grid w la n cap L) (ca : Option Addr) (m ccap : Nat) (c : List Int) (hr : Row w ca m ccap c) (hm : m ≤ 1000) (hn : n ≤ 100) (hl : ∀ c ∈ L, c.length ≤ 100) :
    Calls Tryz.prog 25 #[.slice la n cap, .slice ca m ccap] w fun e w' => ∃ b : Bool, e = .returned (.bool b) ∧ Hid (b = true ↔ Stp L c) ∧ Hid (Below w.heap.size w w') := by
  have HR := hid hr
  have HG := hid gr
  have HL := hid hl
  clear hr gr hl
  go_enter Tryz.func25, Tryz.ntmps25
  go_wp2
  go_loopw [5, 6] (fun v i wr => ∃ q : Nat, q ≤ m ∧ i = .int .i64 q ∧ Hid (Own wr w.heap.size v ((c.take q).map notF)) ∧ Hid (Below w.heap.size w wr)) (fun _ i _ => m - (intOf i).toNat)
  case atStart => exact ⟨0, Nat.zero_le _, rfl, Own.nil _ _, Below.refl _ _⟩
  case round =>
    obtain ⟨q, hq, rfl, hown, hb⟩ := hrel
    by_cases hlt : q < m
    · obtain ⟨b, off, y, rfl, hc, hy, y0, y1⟩ := (HR.out.keep hb.out).at hlt
      have HE := hid (map_next hy.out)
      have HY := hid (fit_not y0 y1)
      have hql : ((c.take q).map notF).length ≤ 1000 := by rw [List.length_map, List.length_take]; omega
      go_wp2_with (first
        | (go_at_call 48; with_reducible (refine (rnot_any _ _ y1).mono ?_); rintro e w1 ⟨rfl, rfl⟩)
        | (at_builtin; refine append_ints rfl (.tmp 15) (.tmp 21) rfl w.heap.size _ _ [notF y] rfl (hown.out.alloc _) _ 1 1 rfl (row_one _ _ HY.out.1 HY.out.2) (by omega) (by have := hb.out.size; simp; omega) ?_; intro v2 w2 own2 hb3))
      go_roundw
      case rel => exact ⟨q + 1, by omega, by go_num, hid (by rw [HE.out]; exact own2.out), hid ((hb.out.alloc hb.out.size _).trans hb3.out)⟩
      case measure => simp only [intOf]; omega
    · have HV : Hid (c.take q = c) := hid (List.take_of_length_le (by rw [HR.out.1]; omega))
      obtain ⟨ao, k, c2, rfl, hrow⟩ := hown.out.shape
      have hrow2 : Hid (Row wr ao k c2 (c.map notF)) := hid (by rw [← HV.out]; exact hrow.out)
      have hk : k ≤ 1000 := by
        have := hrow2.out.1
        have h2 := HR.out.1
        simp at this; omega
      clear hrow hown
      go_wp2_with (go_at_call 49; with_reducible (refine (rclose_b _ la n cap L (HG.out.keep hb.out) ao k c2 _ hrow2.out hn hk HL.out).mono ?_); rintro e w2 ⟨ao3, m3, c3, ok, rfl, hiff, hb2⟩)
      go_ret
      exact ⟨_, rfl, flip_iff hiff.out, Below.next hb.out hb2.out⟩

def longF (xs : List Int) : Bool := decide (40 < xs.length)

def fewF (xss : List (List Int)) (most : Int) : Int := if most < xss.length then 0 else if xss.any longF = true then 0 else 1

theorem few_any (ao : Option Addr) (n cap : Nat) (xss : List (List Int)) (most : Int) (w : World) (h : Grid w ao n cap xss) :
    Calls Tryz.prog 4 #[.slice ao n cap, .int .i64 most] w fun e w' => e = .returned (.int .i64 (fewF xss most)) ∧ w' = w := by
  have HR : Hid (Grid w ao n cap xss) := h
  have hm := h.max
  have hl := h.1
  clear h
  by_cases hb : most < n
  · have HV : Hid (fewF xss most = 0) := by show _ = _; simp only [fewF]; rw [if_pos (by omega)]
    clear hl
    go_enter Tryz.func4, Tryz.ntmps4
    go_wp2
    go_ret
    exact ⟨by rw [HV.out]; rfl, rfl⟩
  · have HV : Hid (fewF xss most = if xss.any longF = true then 0 else 1) := by show _ = _; simp only [fewF]; rw [if_neg (by omega)]
    clear hl
    go_enter Tryz.func4, Tryz.ntmps4
    go_wp2
    go_loop [5] (fun i => ∃ k : Nat, k ≤ n ∧ i = .int .i64 k ∧ Hid ((xss.take k).any longF = false)) (fun i => n - (intOf i).toNat)
    case atStart => exact ⟨0, Nat.zero_le _, rfl, rfl⟩
    case round =>
      obtain ⟨k, hk, rfl, hno⟩ := hrel
      by_cases hlt : k < n
      · obtain ⟨b, off, a, m, c, ys, rfl, hc, hy, hr⟩ := HR.out.at hlt
        have hm2 := hr.out.max
        by_cases he : 40 < m
        · have HW : Hid (fewF xss most = 0) := by
            show _ = _; rw [HV.out, if_pos (gany_hit hy.out (by simp only [longF, decide_eq_true_eq]; rw [hr.out.1]; exact he))]
          have he' : (40 : Int) < m := by omega
          go_wp2
          go_ret
          exact ⟨by rw [HW.out]; rfl, rfl⟩
        · have HW : Hid ((xss.take (k + 1)).any longF = false) := gany_step hno.out hy.out (by simp only [longF, decide_eq_false_iff_not]; rw [hr.out.1]; exact he)
          have he' : ¬ (40 : Int) < m := by omega
          go_wp2
          go_round
          case rel => exact ⟨k + 1, by omega, by go_num, HW⟩
          case measure => simp [intOf]; omega
      · have HW : Hid (fewF xss most = 1) := by
          have := gany_end hno.out (by rw [HR.out.1]; omega)
          show _ = _; rw [HV.out, this]; rfl
        go_wp2
        go_ret
        exact ⟨by rw [HW.out]; rfl, rfl⟩

theorem few_len {xss : List (List Int)} {most : Nat} (h : ¬ fewF xss most = 0) : xss.length ≤ most := by
  by_cases hl : (most : Int) < xss.length
  · exact absurd (by simp only [fewF]; rw [if_pos hl]) h
  · omega

theorem few_short {xss : List (List Int)} {most : Int} (h : ¬ fewF xss most = 0) : ∀ c ∈ xss, c.length ≤ 40 := by
  intro c hc
  by_cases h1 : most < xss.length
  · exact absurd (by simp only [fewF]; rw [if_pos h1]) h
  · cases h2 : xss.any longF
    · have := List.any_eq_false.1 h2 c hc
      simp [longF] at this; omega
    · exact absurd (by simp only [fewF]; rw [if_neg h1, if_pos h2]) h


end Go.Proofs.YtikdmgemhfmipaaGreat.U
