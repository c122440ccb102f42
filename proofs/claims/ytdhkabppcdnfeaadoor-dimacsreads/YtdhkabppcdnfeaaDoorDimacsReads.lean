/-
  The clauses that any text is, or the error; and that it is their text.
-/
import Derived.Test.YtdhkabppcdnfeaaDoorCards
import Derived.Test.YtdhkabppcdnfeaaDoorTie
import Derived.Test.YtdhkabppcdnfeaaDoorBase
import Derived.WalkKit
import Derived.ProofKit
import Derived.OpenShut
import Derived.ShutString
import Derived.ChangeOld
import Derived.ChangeMaps5
import Derived.Below
import Derived.SevenTiedAt
import Derived.Test.YtdhkabppcdnfeaaDoorRread
namespace Go.Proofs.YtdhkabppcdnfeaaDoor.dimacsReads
open Go.ChangeShapes Go.WideShapes Go.ChangeAt Go.RowKit
open Go.ChangeMaps (open_string shut_string)
open Go.Lib (itoa decDigits)
set_option linter.unusedVariables false


set_option maxHeartbeats 4000000 in
theorem walk (s0 : ByteArray) (w : World) (w0 : s0.size ≤ maxLen) (hT : PT w) (hE : ErrT w) :
    Calls Tryd.prog 4 #[.string s0] w fun e w' => e = .returned (.bool true) ∧ Below w.heap.size w w' := by
  obtain ⟨s, rfl⟩ : ∃ l : List UInt8, s0 = ⟨l.toArray⟩ := ⟨s0.data.toList, by cases s0; simp⟩
  have HT := hid hT
  have HE := hid hE
  have hsz : s.length ≤ 9223372036854775807 := by
    have h : s.length ≤ maxLen := w0
    unfold maxLen at h; omega
  clear hT hE w0
  by_cases hl : 3000 < s.length
  · have hl' : (3000 : Int) < s.length := by omega
    go_enter Tryd.func4, Tryd.ntmps4
    go_wp2_with (go_at_call 7; with_reducible (refine (awake_any _ HT.out HE.out).mono ?_); rintro e w3 ⟨rfl, hb3⟩)
    go_ret
    exact ⟨rfl, hb3.out⟩
  have hl' : ¬ (3000 : Int) < s.length := by omega
  have h3 : s.length ≤ 3000 := by omega
  have h6 : s.length ≤ 1000000 := by omega
  rcases hr : readP s with _ | ⟨v, l⟩
  · have HR := hid hr
    have H3 := hid h3
    have H6 := hid h6
    have put : ∀ (W : World), PT W → Calls Tryd.prog 8 #[.int .i64 0, .slice none 0 0] W fun e w' => e = .returned (.tuple #[.string ⟨(textT 0 []).toArray⟩, .int .i64 0]) ∧ Hid (Below W.heap.size W w') := fun W h =>
      Put_ok 0 none 0 0 [] W ⟨rfl, Nat.le_refl _, by unfold maxLen; omega, fun _ => rfl, fun h => by omega⟩ h (by decide) (by have := text_bound (v := 0) (l := []) (N := 0) (M := 0) (fun c hc => by simp at hc) (fun c hc => by simp at hc) (by simp) (by omega) (by omega); omega)
    have PU := hid put
    clear hr h3 h6 hl put
    go_enter Tryd.func4, Tryd.ntmps4
    go_wp2_with (first
      | (go_at_call 10; with_reducible (refine (Read_bad s _ H6.out HR.out HE.out).mono ?_); rintro e w2 ⟨rfl, hb2⟩)
      | (go_at_call 11; with_reducible (refine (rRead_bad s _ H3.out HR.out).mono ?_); rintro e w3 ⟨rfl, hb3⟩)
      | (go_at_call 12; with_reducible (refine (all_same none none 0 0 0 0 [] _ (grid0 _) (grid0 _)).mono ?_); rintro e w4 ⟨rfl, hb4⟩)
      | (go_at_call 8; with_reducible (refine (PU.out _ (((HT.out.keep hb2.out).keep hb3.out).keep hb4.out)).mono ?_); rintro e w5 ⟨rfl, hb5⟩)
      | (go_at_call 7; with_reducible (refine (awake_any _ ((((HT.out.keep hb2.out).keep hb3.out).keep hb4.out).keep hb5.out) ((((HE.out.keep hb2.out).keep hb3.out).keep hb4.out).keep hb5.out)).mono ?_); rintro e w6 ⟨rfl, hb6⟩))
    go_ret
    exact ⟨rfl, Below.next (Below.next (Below.next (Below.next hb2.out hb3.out) hb4.out) hb5.out) hb6.out⟩
  · have HR := hid hr
    have H3 := hid h3
    have H6 := hid h6
    obtain ⟨hg, es⟩ := readP_some hr
    have HC := hid (chk_of_good hg)
    have HX := hid es
    have HL : Hid ((textT v l).length ≤ 10000000) := by show _ ≤ _; rw [← es]; omega
    have put : ∀ (ao : Option Addr) (cap : Nat) (W : World), Grid W ao l.length cap l → PT W → Calls Tryd.prog 8 #[.int .i64 v, .slice ao l.length cap] W fun e w' => e = .returned (.tuple #[.string ⟨s.toArray⟩, .int .i64 0]) ∧ Hid (Below W.heap.size W w') := fun ao cap W h hT =>
      (Put_ok v ao l.length cap l W h hT HC.out HL.out).mono fun e w' ⟨h1, h2⟩ => ⟨by rw [h1, ← HX.out], h2⟩
    have PU := hid put
    clear hr h3 h6 hl put hg es
    go_enter Tryd.func4, Tryd.ntmps4
    go_wp2_with (first
      | (go_at_call 10; with_reducible (refine (Read_ok s v l _ H6.out HR.out).mono ?_); rintro e w2 ⟨ao, cap, rfl, hg2, hb2⟩)
      | (go_at_call 11; with_reducible (refine (rRead_ok s v l _ H3.out HR.out).mono ?_); rintro e w3 ⟨bo, cbp, rfl, hg3, hb3⟩)
      | (go_at_call 12; with_reducible (refine (all_same ao bo _ _ cap cbp l _ (hg2.out.keep hb3.out) hg3.out).mono ?_); rintro e w4 ⟨rfl, hb4⟩)
      | (go_at_call 8; with_reducible (refine (PU.out ao cap _ ((hg2.out.keep hb3.out).keep hb4.out) (((HT.out.keep hb2.out).keep hb3.out).keep hb4.out)).mono ?_); rintro e w5 ⟨rfl, hb5⟩)
      | (go_at_call 7; with_reducible (refine (awake_any _ ((((HT.out.keep hb2.out).keep hb3.out).keep hb4.out).keep hb5.out) ((((HE.out.keep hb2.out).keep hb3.out).keep hb4.out).keep hb5.out)).mono ?_); rintro e w6 ⟨rfl, hb6⟩))
    go_ret
    exact ⟨rfl, Below.next (Below.next (Below.next (Below.next hb2.out hb3.out) hb4.out) hb5.out) hb6.out⟩


set_option maxRecDepth 100000 in
theorem contract (H : Type) (enc : TypeId × Value → H) (W : World) (base : Nat) (args : Array Value) (ds gs : List (DataW H)) (before : List MemPlace)
    (hval0 : ∀ (j : Nat) t v, Tryd.f4.params[j]? = some t → args[j]? = some v → Value.okWide Tryd.prog W .any base t v)
    (hW : DataW.Whole enc Tryd.prog Tryd.f4.params.toList Rows.dimacsReadsSpec.vars false W args.toList ds gs before) (hL : laidMetH Tryd.prog Rows.dimacsReadsRow.laid W) :
    Calls Tryd.prog 4 args W fun e W' => ∃ v, e = .returned v ∧ Rows.dimacsReadsSpec.post enc Tryd.prog Tryd.f4 false true false false W args v W' := by
  have hval := hval0
  have hW' := hW
  obtain ⟨p, q, hA0, hV, rfl, hfz, hnd⟩ := hW
  have hA : DataW.TrodAll enc Tryd.prog W 0 (fun _ => true) true Tryd.f4.params.toList args.toList ds p := hA0
  rw [Tryd.params4] at hA hval
  obtain ⟨v0, vs0, d0, ds0, p0, q0, hargs, rfl, rfl, h0, r0⟩ := trodAll_cons hA
  obtain ⟨rfl, rfl, rfl⟩ := trodAll_nil r0
  obtain rfl : args = #[v0] := by cases args; simp_all
  obtain ⟨rfl, rfl⟩ := trodVars_none hV
  obtain ⟨s0, rfl, rfl, rfl, w0⟩ := open_string Tryd.underlying9 (hval 0 9 v0 rfl rfl) h0
  clear hA0 hval0
  refine (walk s0 W w0 (laid_pow hL) (laid_err hL)).mono fun e W' ⟨he, bel⟩ => ?_
  subst he
  exact ⟨_, rfl, _, _, _, [], _, [], hW', trodAll_mk1 (shut_bool Tryd.underlying4 _), (trodAll_cons_mk (shut_string Tryd.underlying9 w0) trodAll_mk0), rfl, bel.frame _, fun h => by cases h⟩

theorem laid_met (os : Os) : laidMetH Tryd.prog Rows.dimacsReadsRow.laid ((laidWorldOf Tryd.prog os).forCall (fun _ _ => 0) ⟨#[], #[.string ⟨#[]⟩], []⟩).memory :=
  laidMetH_of_parts (laidMet_of_run' 8 (by kernel_rfl) (by kernel_rfl)) (by kernel_rfl)
theorem reads (os : Os) {H : Type} (enc : TypeId × Value → H) : ∃ places, DataW.whole enc Tryd.prog ((laidWorldOf Tryd.prog os).forCall (fun _ _ => 0) ⟨#[], #[.string ⟨#[]⟩], []⟩).memory Tryd.f4.params.toList Rows.dimacsReadsSpec.vars false (#[.string ⟨#[]⟩] : Array Value).toList 8 = some ([.lit (.string [])], [], places) :=
  ⟨[], by kernel_rfl⟩

set_option maxRecDepth 100000 in
theorem lifted (os : Os) (started : os.Started) (H : Type) (enc : TypeId × Value → H) (F : Stop.Interp) :
    ReturnsInHanded {} Tryd.checked os 4 .any ((OpenSpec.ofChange Rows.dimacsReadsSpec).preRow enc Tryd.prog Tryd.f4 Rows.dimacsReadsRow.domain false Rows.dimacsReadsRow.laid) (((OpenSpec.ofChange Rows.dimacsReadsSpec).at F).post enc Tryd.prog Tryd.f4 false true false false) := by
  obtain ⟨places, hx⟩ := reads os enc
  refine returnsInHanded_of_row (C := Tryd.checked) (s := OpenSpec.ofChange Rows.dimacsReadsSpec) own started (by kernel_rfl) Tryd.func4
    (witness_row_at (enc := enc) (C := Tryd.checked) false (laidWorldOf Tryd.prog os) #[.string ⟨#[]⟩] rfl (by kernel_rfl) (by kernel_rfl) (by kernel_rfl)
      (OpenSpec.preRow_of_cond 8 hx (by kernel_rfl) (fun k hk => by cases hk) (by kernel_rfl) (laid_met os))) ?_
  intro W base args ds gs before hval hW _ _ _ hL _ _
  exact contract H enc W base args ds gs before hval hW hL

theorem said : Rows.DimacsReadsSaid :=
  OpenClaim.holds_of_cond 4 Tryd.f4 rfl rfl rfl rfl rfl rfl rfl ⟨rfl, rfl, rfl, rfl, rfl⟩ rfl rfl rfl rfl rfl (by kernel_rfl) Tryd.func4 (by kernel_rfl)
    (of_decide_eq_true (by kernel_rfl)) (by unfold Func.isWrapper; first | (rw [if_pos (by decide +kernel)]; kernel_rfl) | (rw [if_neg (by decide +kernel)]; exact ⟨rfl, rfl⟩))
    (fun os started H enc _ F => by rw [OpenClaim.pre_eq_preRow]; exact lifted os started H enc F)

theorem plain (f : FuncId) (fn : Func) (hf : Tryd.pinned.checked.prog.funcNamed "breakwater/breakwaterlaw05.DimacsReads" = some f) (hfn : Tryd.pinned.checked.prog.funcs[f]? = some fn) :
    true = Tryd.pinned.checked.prog.looks [] ∧ ∀ (j : Nat) t, fn.params[j]? = some t → Tryd.pinned.checked.prog.wantsStandIn t = false := by
  obtain rfl : f = 4 := Option.some.inj ((show Tryd.prog.funcNamed "breakwater/breakwaterlaw05.DimacsReads" = some 4 by kernel_rfl).symm.trans hf) |>.symm
  obtain rfl : fn = Tryd.f4 := (Option.some.inj (Tryd.func4.symm.trans hfn)).symm
  refine ⟨by kernel_rfl, fun j t ht => ?_⟩
  rw [Tryd.params4] at ht
  obtain rfl : t = 9 := by simpa using Array.mem_of_getElem? ht
  exact (show Tryd.prog.wantsStandIn 9 = false by kernel_rfl)

theorem proved : Rows.DimacsReadsCardSaid :=
  Claim7.holds_tied_plain_at .later [] _ _ _ _ said (fun _ h => by cases h) (by kernel_rfl) (fun _ h => by cases h) dimacsReads_row_tie rfl ⟨rfl, rfl⟩ (by kernel_rfl) rfl plain (by kernel_rfl)
#print axioms proved
end Go.Proofs.YtdhkabppcdnfeaaDoor.dimacsReads
