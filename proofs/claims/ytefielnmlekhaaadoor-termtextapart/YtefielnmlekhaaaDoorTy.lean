/-
  The walk of TermtextApart.
-/
import Derived.Test.YtefielnmlekhaaaDoorSx
import Derived.Test.YtefielnmlekhaaaDoorTa
namespace Go.Proofs.YtefielnmlekhaaaDoor
open Go.RowKit Go.Maps
set_option linter.unusedVariables false
set_option maxRecDepth 100000

/-- Two terms that are shown. -/
theorem show_apart {N : List Nd} (r : Wl N) (g : Gd N) {q p : Nat} (hq : q < N.length) (hp : p < q) {S T : List UInt8} {E F : Int} (h : shS N q = S ∧ shE N q = E) (k : shS N p = T ∧ shE N p = F) (hE : E = 0) (hF : F = 0) : S ≠ T := by
  rintro rfl
  have e1 : isN N q = true := isN_nat hq
  have e2 : isN N p = true := isN_nat (by omega)
  have l1 : (TX N q).length ≤ 4096 := by
    have := h.2
    rw [shE, if_pos e1] at this
    split at this
    · assumption
    · omega
  have l2 : (TX N p).length ≤ 4096 := by
    have := k.2
    rw [shE, if_pos e2] at this
    split at this
    · assumption
    · omega
  have a1 := h.1
  have a2 := k.1
  rw [shS, if_pos ⟨e1, l1⟩] at a1
  rw [shS, if_pos ⟨e2, l2⟩] at a2
  have := text_one r g hq (show p < N.length by omega) (a1.trans a2.symm)
  omega

set_option maxHeartbeats 8000000 in
theorem apart_walk {x y : Addr} (a : Option Addr) (len cap : Nat) (D : Nat → Dd) (w : World) (hD : Deeds w a len D) (hE : Env w x y) :
    Calls Tryd.prog 4 #[.slice a len cap] w fun e w' => e = .returned (.bool true) ∧ Below w.heap.size w w' := by
  have HD := hid hD
  have HE := hid hE
  clear hD hE
  by_cases h50 : 50 < len
  · have h50' : (50 : Int) < len := by omega
    go_enter Tryd.func4, Tryd.ntmps4
    go_wp2_with (go_at_call 5; with_reducible (refine (awake_any _ HE.out).mono ?_); rintro e w1 ⟨rfl, b1⟩)
    go_ret
    exact ⟨rfl, b1.out⟩
  · have h50' : ¬ (50 : Int) < len := by omega
    have hl : len ≤ 150 := by omega
    go_enter Tryd.func4, Tryd.ntmps4
    go_wp2_with (go_at_call 6; with_reducible (refine (build_any 1000 _ _ _ D _ HD.out hl).mono ?_); rintro e w1 ⟨k, N, P, ao, c, rfl, s1, r1, b1, wl, hn, hM, hB⟩)
    have HT := hid (tq_start HE.out s1.out r1.out b1.out)
    have HW := hid wl.out
    have HG := hid s1.out.1
    have hN : N.length ≤ 50 := by omega
    clear s1 r1 b1 hM hB wl
    revert HT
    generalize w1.alloc (.cells #[.slice ao N.length c, .int .i64 k.M] 27) = wz
    generalize w1.heap.size = XB
    intro HT
    go_loopw [5] (fun i wr => ∃ q : Nat, q ≤ N.length ∧ i = .int .i64 q ∧ Hid (Tq w x y k XB N P ao c wr)) (fun i _ => N.length - (intOf i).toNat)
    case atStart => exact ⟨0, Nat.zero_le _, rfl, HT⟩
    case round =>
      clear HT
      obtain ⟨q, hq, rfl, hr⟩ := hrel
      obtain ⟨c0, c1⟩ := hr.out.two
      by_cases hlt : q < N.length
      · have hlt' : (q : Int) < N.length := by omega
        go_wp2_with fail
        go_loopw [6] (fun j wr => ∃ p : Nat, p ≤ q ∧ j = .int .i64 p ∧ Hid (Tq w x y k XB N P ao c wr)) (fun j _ => q - (intOf j).toNat)
        case atStart => exact ⟨0, Nat.zero_le _, rfl, hr⟩
        case round =>
          clear hr c0 c1
          obtain ⟨p, hp, rfl, hr⟩ := hrel
          by_cases hpq : p < q
          · have hpq' : (p : Int) < q := by omega
            obtain ⟨S, hS⟩ : ∃ S, shS N q = S := ⟨_, rfl⟩
            obtain ⟨E, hE⟩ : ∃ E, shE N q = E := ⟨_, rfl⟩
            obtain ⟨T, hT⟩ : ∃ T, shS N p = T := ⟨_, rfl⟩
            obtain ⟨F, hF⟩ : ∃ F, shE N p = F := ⟨_, rfl⟩
            have HS := hid (And.intro hS hE)
            have HT := hid (And.intro hT hF)
            have HAp := hid (show_apart HW.out HG.out hlt hpq HS.out HT.out)
            clear hS hE hT hF
            by_cases eE : E = 0
            · by_cases eF : F = 0
              · have ne := HAp.out eE eF
                have ne1 : (S == T) = false := by simpa using ne
                subst eE eF
                go_wp2_with (first
                  | (go_at_call 7; with_reducible (refine (show_is hr.out.en hr.out.dg HW.out q HS.out).mono ?_); rintro e w2 ⟨rfl, b2⟩; have H2 := hid (hr.out.below b2.out))
                  | (go_at_call 7; with_reducible (refine (show_is H2.out.en H2.out.dg HW.out p HT.out).mono ?_); rintro e w3 ⟨rfl, b3⟩; have H3 := hid (H2.out.below b3.out)))
                go_roundw
                case rel => exact ⟨p + 1, by omega, by go_num, H3⟩
                case measure => simp only [intOf]; omega
              · have eF' : (F == 0) = false := by simpa using eF
                subst eE
                go_wp2_with (first
                  | (go_at_call 7; with_reducible (refine (show_is hr.out.en hr.out.dg HW.out q HS.out).mono ?_); rintro e w2 ⟨rfl, b2⟩; have H2 := hid (hr.out.below b2.out))
                  | (go_at_call 7; with_reducible (refine (show_is H2.out.en H2.out.dg HW.out p HT.out).mono ?_); rintro e w3 ⟨rfl, b3⟩; have H3 := hid (H2.out.below b3.out)))
                go_roundw
                case rel => exact ⟨p + 1, by omega, by go_num, H3⟩
                case measure => simp only [intOf]; omega
            · have eE' : (E == 0) = false := by simpa using eE
              go_wp2_with (first
                | (go_at_call 7; with_reducible (refine (show_is hr.out.en hr.out.dg HW.out q HS.out).mono ?_); rintro e w2 ⟨rfl, b2⟩; have H2 := hid (hr.out.below b2.out))
                | (go_at_call 7; with_reducible (refine (show_is H2.out.en H2.out.dg HW.out p HT.out).mono ?_); rintro e w3 ⟨rfl, b3⟩; have H3 := hid (H2.out.below b3.out)))
              go_roundw
              case rel => exact ⟨p + 1, by omega, by go_num, H3⟩
              case measure => simp only [intOf]; omega
          · have hpq' : ¬ (p : Int) < q := by omega
            go_wp2_with fail
            go_roundw
            case rel => exact ⟨q + 1, by omega, by go_num, hr⟩
            case measure => simp only [intOf]; omega
      · have hlt' : ¬ (q : Int) < N.length := by omega
        go_wp2_with (go_at_call 5; with_reducible (refine (awake_any _ hr.out.en).mono ?_); rintro e w6 ⟨rfl, b6⟩)
        go_ret
        exact ⟨rfl, Below.next hr.out.be b6.out⟩

end Go.Proofs.YtefielnmlekhaaaDoor
