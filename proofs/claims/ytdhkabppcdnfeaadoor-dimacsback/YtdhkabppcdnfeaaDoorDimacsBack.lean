/-
  Clauses that may be are read as they were.
-/
import Derived.Test.YtdhkabppcdnfeaaDoorCards
import Derived.Test.YtdhkabppcdnfeaaDoorTie
import Derived.Test.YtdhkabppcdnfeaaDoorBase
import Derived.WalkKit
import Derived.ProofKit
import Derived.OpenShut
import Derived.ShutString
import Derived.ChangeOld
import Derived.ChangeMaps5
import Derived.Below
import Derived.SevenTiedAt
import Derived.Test.YtdhkabppcdnfeaaDoorFewest
namespace Go.Proofs.YtdhkabppcdnfeaaDoor.dimacsBack
open Go.ChangeShapes Go.WideShapes Go.ChangeAt Go.RowKit
open Go.ChangeMaps (open_string shut_string)
open Go.Lib (itoa decDigits)
set_option linter.unusedVariables false


set_option maxHeartbeats 4000000 in
theorem walk (a0 : Int) (a1 : Option Addr) (len1 cap1 : Nat) (z1 : List (List Int)) (w : World) (w0 : (Lit.int .i64 a0).wf = true) (w1 : Grid w a1 len1 cap1 z1) (hT : PT w) (hE : ErrT w) :
    Calls Tryd.prog 5 #[.int .i64 a0, .slice a1 len1 cap1] w fun e w' => e = .returned (.bool true) ∧ Below w.heap.size w w' := by
  have HG := hid w1
  have HT := hid hT
  have HE := hid hE
  clear w1 hT hE
  by_cases hf : fewF z1 100 = 0
  · have hf' : (fewF z1 100 == 0) = true := by simpa using hf
    clear hf
    go_enter Tryd.func5, Tryd.ntmps5
    go_wp2_with (first
      | (go_at_call 6; with_reducible (refine (few_any _ _ _ z1 100 _ HG.out).mono ?_); rintro e w2 ⟨rfl, rfl⟩)
      | (go_at_call 7; with_reducible (refine (awake_any _ HT.out HE.out).mono ?_); rintro e w3 ⟨rfl, hb3⟩))
    go_ret
    exact ⟨rfl, hb3.out⟩
  have hf' : (fewF z1 100 == 0) = false := by simpa using hf
  by_cases hc : chkF a0 z1 = 0
  · obtain ⟨v0, v1, _, _⟩ := chk_split hc
    obtain ⟨v, rfl⟩ := Int.eq_ofNat_of_zero_le v0
    have HC := hid hc
    have HL := hid (text_few (v := v) hf (HG.out.fits) (by omega))
    have HR := hid (readP_text (good_of_chk hc))
    have HA : Hid (allF z1 z1 = true) := by show _ = _; simp [allF]
    have HN := hid HG.out.1
    clear hf hc v0 v1 w0
    go_enter Tryd.func5, Tryd.ntmps5
    go_wp2_with (first
      | (go_at_call 6; with_reducible (refine (few_any _ _ _ z1 100 _ HG.out).mono ?_); rintro e w2 ⟨rfl, rfl⟩)
      | (go_at_call 8; with_reducible (refine (Put_ok v _ _ _ z1 _ HG.out HT.out HC.out (Nat.le_trans HL.out (by omega))).mono ?_); rintro e w3 ⟨rfl, hb3⟩)
      | (go_at_call 10; with_reducible (refine (Read_ok (textT v z1) v z1 _ (Nat.le_trans HL.out (by omega)) HR.out).mono ?_); rintro e w4 ⟨ao, cap, rfl, hg4, hb4⟩)
      | (go_at_call 12; with_reducible (refine (all_same _ _ _ _ _ _ z1 _ ((HG.out.keep hb3.out).keep hb4.out) hg4.out).mono ?_); rintro e w5 ⟨rfl, hb5⟩)
      | (go_at_call 7; with_reducible (refine (awake_any _ (((HT.out.keep hb3.out).keep hb4.out).keep hb5.out) (((HE.out.keep hb3.out).keep hb4.out).keep hb5.out)).mono ?_); rintro e w6 ⟨rfl, hb6⟩))
    go_ret
    exact ⟨rfl, Below.next (Below.next (Below.next hb3.out hb4.out) hb5.out) hb6.out⟩
  · have HC := hid hc
    have hc' : (chkF a0 z1 != 0) = true := by simpa using hc
    clear hf hc w0
    go_enter Tryd.func5, Tryd.ntmps5
    go_wp2_with (first
      | (go_at_call 6; with_reducible (refine (few_any _ _ _ z1 100 _ HG.out).mono ?_); rintro e w2 ⟨rfl, rfl⟩)
      | (go_at_call 8; with_reducible (refine (Put_bad a0 _ _ _ z1 _ HG.out HC.out).mono ?_); rintro e w3 ⟨rfl, hb3⟩)
      | (go_at_call 7; with_reducible (refine (awake_any _ (HT.out.keep hb3.out) (HE.out.keep hb3.out)).mono ?_); rintro e w5 ⟨rfl, hb5⟩))
    go_ret
    exact ⟨rfl, Below.next hb3.out hb5.out⟩


set_option maxRecDepth 100000 in
theorem contract (H : Type) (enc : TypeId × Value → H) (W : World) (base : Nat) (args : Array Value) (ds gs : List (DataW H)) (before : List MemPlace)
    (hval0 : ∀ (j : Nat) t v, Tryd.f5.params[j]? = some t → args[j]? = some v → Value.okWide Tryd.prog W .any base t v)
    (hW : DataW.Whole enc Tryd.prog Tryd.f5.params.toList Rows.dimacsBackSpec.vars false W args.toList ds gs before) (hL : laidMetH Tryd.prog Rows.dimacsBackRow.laid W) :
    Calls Tryd.prog 5 args W fun e W' => ∃ v, e = .returned v ∧ Rows.dimacsBackSpec.post enc Tryd.prog Tryd.f5 false true false false W args v W' := by
  have hval := hval0
  have hW' := hW
  obtain ⟨p, q, hA0, hV, rfl, hfz, hnd⟩ := hW
  have hA : DataW.TrodAll enc Tryd.prog W 0 (fun _ => true) true Tryd.f5.params.toList args.toList ds p := hA0
  rw [Tryd.params5] at hA hval
  obtain ⟨v0, vs0, d0, ds0, p0, q0, hargs, rfl, rfl, h0, r0⟩ := trodAll_cons hA
  obtain ⟨v1, vs1, d1, ds1, p1, q1, rfl, rfl, rfl, h1, r1⟩ := trodAll_cons r0
  obtain ⟨rfl, rfl, rfl⟩ := trodAll_nil r1
  obtain rfl : args = #[v0, v1] := by cases args; simp_all
  obtain ⟨rfl, rfl⟩ := trodVars_none hV
  obtain ⟨a0, rfl, rfl, rfl, w0⟩ := open_int Tryd.underlying3 (hval 0 3 v0 rfl rfl) h0
  obtain ⟨a1, len1, cap1, rfl⟩ := okWide_slice Tryd.underlying22 (hval 1 22 v1 rfl rfl)
  have k1 := h1
  have lt1 : ∀ x ∈ p1, x.block < W.heap.size := by obtain ⟨m, hm⟩ := k1; exact DataW.trod_lt m _ _ _ hm
  obtain ⟨z1, w1⟩ : ∃ zs, Grid W a1 len1 cap1 zs := by
    obtain ⟨fuel, hf⟩ := h1
    exact grid_of hf
  clear hA0 hval0
  refine (walk a0 a1 len1 cap1 z1 W w0 w1 (laid_pow hL) (laid_err hL)).mono fun e W' ⟨he, bel⟩ => ?_
  subst he
  exact ⟨_, rfl, _, _, _, [], _, [], hW', trodAll_mk1 (shut_bool Tryd.underlying4 _), (trodAll_cons_mk (shut_int Tryd.underlying3 w0) (trodAll_cons_mk (Below.trod laidOut (by kernel_rfl) (of_decide_eq_true (by kernel_rfl)) k1 bel lt1) trodAll_mk0)), rfl, bel.frame _, fun h => by cases h⟩

theorem laid_met (os : Os) : laidMetH Tryd.prog Rows.dimacsBackRow.laid ((laidWorldOf Tryd.prog os).forCall (fun _ _ => 0) ⟨#[], #[.int .i64 0, .slice none 0 0], []⟩).memory :=
  laidMetH_of_parts (laidMet_of_run' 8 (by kernel_rfl) (by kernel_rfl)) (by kernel_rfl)
theorem reads (os : Os) {H : Type} (enc : TypeId × Value → H) : ∃ places, DataW.whole enc Tryd.prog ((laidWorldOf Tryd.prog os).forCall (fun _ _ => 0) ⟨#[], #[.int .i64 0, .slice none 0 0], []⟩).memory Tryd.f5.params.toList Rows.dimacsBackSpec.vars false (#[.int .i64 0, .slice none 0 0] : Array Value).toList 8 = some ([.lit (.int .i64 0), .nil], [], places) :=
  ⟨[], by kernel_rfl⟩

set_option maxRecDepth 100000 in
theorem lifted (os : Os) (started : os.Started) (H : Type) (enc : TypeId × Value → H) (F : Stop.Interp) :
    ReturnsInHanded {} Tryd.checked os 5 .any ((OpenSpec.ofChange Rows.dimacsBackSpec).preRow enc Tryd.prog Tryd.f5 Rows.dimacsBackRow.domain false Rows.dimacsBackRow.laid) (((OpenSpec.ofChange Rows.dimacsBackSpec).at F).post enc Tryd.prog Tryd.f5 false true false false) := by
  obtain ⟨places, hx⟩ := reads os enc
  refine returnsInHanded_of_row (C := Tryd.checked) (s := OpenSpec.ofChange Rows.dimacsBackSpec) own started (by kernel_rfl) Tryd.func5
    (witness_row_at (enc := enc) (C := Tryd.checked) false (laidWorldOf Tryd.prog os) #[.int .i64 0, .slice none 0 0] rfl (by kernel_rfl) (by kernel_rfl) (by kernel_rfl)
      (OpenSpec.preRow_of_cond 8 hx (by kernel_rfl) (fun k hk => by cases hk) (by kernel_rfl) (laid_met os))) ?_
  intro W base args ds gs before hval hW _ _ _ hL _ _
  exact contract H enc W base args ds gs before hval hW hL

theorem said : Rows.DimacsBackSaid :=
  OpenClaim.holds_of_cond 5 Tryd.f5 rfl rfl rfl rfl rfl rfl rfl ⟨rfl, rfl, rfl, rfl, rfl⟩ rfl rfl rfl rfl rfl (by kernel_rfl) Tryd.func5 (by kernel_rfl)
    (of_decide_eq_true (by kernel_rfl)) (by unfold Func.isWrapper; first | (rw [if_pos (by decide +kernel)]; kernel_rfl) | (rw [if_neg (by decide +kernel)]; exact ⟨rfl, rfl⟩))
    (fun os started H enc _ F => by rw [OpenClaim.pre_eq_preRow]; exact lifted os started H enc F)

theorem plain (f : FuncId) (fn : Func) (hf : Tryd.pinned.checked.prog.funcNamed "breakwater/breakwaterlaw05.DimacsBack" = some f) (hfn : Tryd.pinned.checked.prog.funcs[f]? = some fn) :
    true = Tryd.pinned.checked.prog.looks [] ∧ ∀ (j : Nat) t, fn.params[j]? = some t → Tryd.pinned.checked.prog.wantsStandIn t = false := by
  obtain rfl : f = 5 := Option.some.inj ((show Tryd.prog.funcNamed "breakwater/breakwaterlaw05.DimacsBack" = some 5 by kernel_rfl).symm.trans hf) |>.symm
  obtain rfl : fn = Tryd.f5 := (Option.some.inj (Tryd.func5.symm.trans hfn)).symm
  refine ⟨by kernel_rfl, fun j t ht => ?_⟩
  rw [Tryd.params5] at ht
  have ho : t = 3 ∨ t = 22 := by simpa using Array.mem_of_getElem? ht
  rcases ho with rfl | rfl
  · exact (show Tryd.prog.wantsStandIn 3 = false by kernel_rfl)
  · exact (show Tryd.prog.wantsStandIn 22 = false by kernel_rfl)

theorem proved : Rows.DimacsBackCardSaid :=
  Claim7.holds_tied_plain_at .later [] _ _ _ _ said (fun _ h => by cases h) (by kernel_rfl) (fun _ h => by cases h) dimacsBack_row_tie rfl ⟨rfl, rfl⟩ (by kernel_rfl) rfl plain (by kernel_rfl)
#print axioms proved
end Go.Proofs.YtdhkabppcdnfeaaDoor.dimacsBack
