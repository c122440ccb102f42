/-
  The document's calls: Var.
-/
import Derived.Test.YtefielnmlekhaaaDoorRcalls
namespace Go.Proofs.YtefielnmlekhaaaDoor
open Go.RowKit Go.Maps
set_option linter.unusedVariables false
set_option maxRecDepth 100000

/-- Of the first k terms none is the variable i of another width. -/
def NoVar (N : List Nd) (x i : Int) (k : Nat) : Prop := ∀ j : Nat, j < k → (ndA N j).op = 21 → (ndA N j).a = i → (ndA N j).wd = x
theorem NoVar.next {N : List Nd} {x i : Int} {k : Nat} (h : NoVar N x i k) (g : (ndA N k).op = 21 → (ndA N k).a = i → (ndA N k).wd = x) : NoVar N x i (k + 1) := by
  intro j hj
  by_cases e : j = k
  · subst e; exact g
  · exact h j (by omega)
theorem var_bad {N : List Nd} (gd : Gd N) {x u v : Int} {k : Nat} (hk : k < N.length) (ho : (ndA N k).op = 21) (hu : (ndA N k).a = u) (hv : (ndA N k).wd = v) (hne : ¬ v = x) : ((vwF N u != 0) && (vwF N u != x)) = true := by
  have hm : ndA N k ∈ N := List.mem_of_getElem? (ndA_nat hk)
  have h1 := vwF_of gd hm ho
  have h2 := gd.wd _ hm
  rw [hu, hv] at h1
  rw [hv] at h2
  rw [h1]
  simp
  exact ⟨by omega, hne⟩
theorem var_good {N : List Nd} {x i : Int} (h : NoVar N x i N.length) : ((vwF N i != 0) && (vwF N i != x)) = false := by
  by_cases h0 : vwF N i = 0
  · simp [h0]
  · obtain ⟨n, hn, h1, h2, h3⟩ := vwF_mem h0
    obtain ⟨j, hj⟩ := List.getElem?_of_mem hn
    have hl : j < N.length := by
      by_cases g : j < N.length
      · exact g
      · rw [List.getElem?_eq_none (by omega)] at hj; cases hj
    have e : ndA N j = n := by
      have := ndA_nat hl
      rw [hj] at this
      exact (Option.some.inj this).symm
    have := h j hl (by rw [e]; exact h1) (by rw [e]; exact h2)
    rw [e, h3] at this
    simp [this]

set_option maxHeartbeats 8000000 in
theorem rvar_any {w : World} {ao : Option Addr} {c M : Nat} {N : List Nd} (s : RD w ao c N) (hN : N.length ≤ 65536) (gd : Gd N) (x i : Int) :
    Calls Tryd.prog 35 #[.agg #[.slice ao N.length c, .int .i64 M], .int .i64 x, .int .i64 i] w fun e w' => RcEnd w ao M N (varP N x i) e w' := by
  have HS : Hid (RE w ao c M N _) := hid (RE.start s)
  clear s
  cases hf : fitsB x
  · refine rc_tells (q := .inl (0, 2)) (by simp [varP, hf]) ?_
    go_enter Tryd.func35, Tryd.ntmps35
    go_upto_region 1 with fail
    revert HS
    generalize ((w.alloc (.cells #[.slice ao N.length c, .int .i64 M] 27)).alloc (.cells #[.slice none 0 0, .int .i64 0] 27)) = wr
    intro HS
    have C0 := HS.out.cells
    obtain ⟨c0, c1, r0, r1, f0, f1⟩ := C0
    go_wp2_with (go_at_call 52; with_reducible (refine (rfits_any _ _).mono ?_); rintro e w2 ⟨rfl, rfl⟩)
    refine bodyPost_ret (results_box3 rfl _ _ (w.heap.size + 1) _ _ rfl (res_two HS.out.b1).1 (res_two HS.out.b1).2) rfl ?_
    exact rc_no HS.out
  by_cases h1 : i < 0
  · refine rc_tells (q := .inl (0, 10)) (by simp [varP, hf, h1]) ?_
    go_enter Tryd.func35, Tryd.ntmps35
    go_upto_region 1 with fail
    revert HS
    generalize ((w.alloc (.cells #[.slice ao N.length c, .int .i64 M] 27)).alloc (.cells #[.slice none 0 0, .int .i64 0] 27)) = wr
    intro HS
    have C0 := HS.out.cells
    obtain ⟨c0, c1, r0, r1, f0, f1⟩ := C0
    go_wp2_with (go_at_call 52; with_reducible (refine (rfits_any _ _).mono ?_); rintro e w2 ⟨rfl, rfl⟩)
    refine bodyPost_ret (results_box3 rfl _ _ (w.heap.size + 1) _ _ rfl (res_two HS.out.b1).1 (res_two HS.out.b1).2) rfl ?_
    exact rc_no HS.out
  by_cases h2 : 255 < i
  · refine rc_tells (q := .inl (0, 10)) (by have : 256 ≤ i := by omega
                                            simp [varP, hf, this]) ?_
    go_enter Tryd.func35, Tryd.ntmps35
    go_upto_region 1 with fail
    revert HS
    generalize ((w.alloc (.cells #[.slice ao N.length c, .int .i64 M] 27)).alloc (.cells #[.slice none 0 0, .int .i64 0] 27)) = wr
    intro HS
    have C0 := HS.out.cells
    obtain ⟨c0, c1, r0, r1, f0, f1⟩ := C0
    go_wp2_with (go_at_call 52; with_reducible (refine (rfits_any _ _).mono ?_); rintro e w2 ⟨rfl, rfl⟩)
    refine bodyPost_ret (results_box3 rfl _ _ (w.heap.size + 1) _ _ rfl (res_two HS.out.b1).1 (res_two HS.out.b1).2) rfl ?_
    exact rc_no HS.out
  have HP : Hid (varP N x i = if (vwF N i != 0) && (vwF N i != x) then .inl (0, 2) else .inr ⟨21, x, i, 0, 0, 0⟩) := hid (by
    have k1 : (decide (i < 0) || decide (256 ≤ i)) = false := by simp; omega
    simp only [varP, hf, k1]; simp)
  have GD := hid gd
  clear gd
  go_enter Tryd.func35, Tryd.ntmps35
  go_upto_region 1 with fail
  revert HS
  generalize ((w.alloc (.cells #[.slice ao N.length c, .int .i64 M] 27)).alloc (.cells #[.slice none 0 0, .int .i64 0] 27)) = wr
  intro HS
  have C0 := HS.out.cells
  obtain ⟨c0, c1, r0, r1, f0, f1⟩ := C0
  go_wp2_with (go_at_call 52; with_reducible (refine (rfits_any _ _).mono ?_); rintro e w2 ⟨rfl, rfl⟩)
  go_loop [9] (fun j => ∃ k : Nat, k ≤ N.length ∧ j = .int .i64 k ∧ Hid (NoVar N x i k)) (fun j => N.length - (intOf j).toNat)
  case atStart => exact ⟨0, Nat.zero_le _, rfl, hid (fun j hj => by omega)⟩
  case round =>
    obtain ⟨k, hk, rfl, hv⟩ := hrel
    by_cases hlt : k < N.length
    · have hlt' : (k : Int) < N.length := by omega
      obtain ⟨g, rfl, e0, e1, e2, e3, e4, e5⟩ := HS.out.rd.at hlt
      obtain ⟨o, ho⟩ : ∃ o, (ndA N k).op = o := ⟨_, rfl⟩
      obtain ⟨u, hu⟩ : ∃ u, (ndA N k).a = u := ⟨_, rfl⟩
      obtain ⟨v, hw⟩ : ∃ v, (ndA N k).wd = v := ⟨_, rfl⟩
      rw [ho] at e0
      rw [hw] at e1
      rw [hu] at e2
      have HO := hid ho
      have HU := hid hu
      have HW := hid hw
      have HL := hid hlt
      clear e3 e4 e5 ho hu hw
      by_cases k0 : o = 21
      · subst k0
        by_cases k1 : u = i
        · subst k1
          by_cases k2 : v = x
          · subst k2
            go_wp2
            go_round
            case rel => exact ⟨k + 1, by omega, by go_num, hid (hv.out.next fun h1 h2 => HW.out)⟩
            case measure => simp only [intOf]; omega
          · have n2 : (v != x) = true := by simpa using k2
            have HR : Hid (varP N x u = .inl (0, 2)) := hid (by rw [HP.out, var_bad GD.out HL.out HO.out HU.out HW.out k2]; rfl)
            clear k2
            go_wp2
            refine bodyPost_ret (results_box3 rfl _ _ (w.heap.size + 1) _ _ rfl (res_two HS.out.b1).1 (res_two HS.out.b1).2) rfl ?_
            show RcEnd _ _ _ _ _ _ _
            rw [HR.out]
            exact rc_no HS.out
        · have n1 : (u == i) = false := by simpa using k1
          have HK := hid k1
          clear k1
          go_wp2
          go_round
          case rel => exact ⟨k + 1, by omega, by go_num, hid (hv.out.next fun h1 h2 => absurd (HU.out.symm.trans h2) HK.out)⟩
          case measure => simp only [intOf]; omega
      · have n0 : (o == 21) = false := by simpa using k0
        have HK := hid k0
        clear k0
        go_wp2
        go_round
        case rel => exact ⟨k + 1, by omega, by go_num, hid (hv.out.next fun h1 h2 => absurd (HO.out.symm.trans h1) HK.out)⟩
        case measure => simp only [intOf]; omega
    · have HR : Hid (varP N x i = .inr ⟨21, x, i, 0, 0, 0⟩) := hid (by rw [HP.out, var_good (show NoVar N x i N.length from (by have := hv.out; rwa [show k = N.length by omega] at this))]; rfl)
      go_wp2_with (go_at_call 53; with_reducible (refine (rmade_at HS.out 21 x i 0 0 0 hN).mono ?_); rintro e w6 ⟨ao6, cc6, rfl, h6, b6, q6⟩; obtain ⟨c0, c1, r0, r1, f0, f1⟩ := q6)
      refine bodyPost_ret (results_box3 rfl _ _ (w.heap.size + 1) _ _ rfl (res_two (HS.out.below b6.out).b1).1 (res_two (HS.out.below b6.out).b1).2) rfl ?_
      show RcEnd _ _ _ _ _ _ _
      rw [HR.out]
      exact rc_yes HS.out h6 b6

end Go.Proofs.YtefielnmlekhaaaDoor
