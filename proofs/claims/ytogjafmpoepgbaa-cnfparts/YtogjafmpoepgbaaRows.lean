/-
  No cell of these rows narrows 'for every input' (looked for: loops, veiled, ifaces, maps, wideKeys, modest, calm, conditions, laid).
  DERIVED. THE GIVEN ROWS OF THIS SEAT. 3 by the template 'for every input the law returns true; each argument reads behind the call as it read before'; 0 by the template 'total and deterministic' (their statements: YtogjafmpoepgbaaTotals.lean).
  GIVEN WITH THE SEED: the statements are not yours to turn. If you find one false, say at which input.
  Laid BY PROGRAM, IN A SANDBOX (cutbox-rows.mjs): the forced cells as the released guide's own fill.sh prints them over the translation 066a504a3a5eb583… (all of the seat's roots in one cut). By AI agents, Wed Nov 11 2026. No macro, syntax, notation, axiom, sorry.
-/
import Derived.Test.YtogjafmpoepgbaaChecked
import GoSem.Claim
import GoSem.ClaimJoined
import GoSem.ClaimMapViews
import Derived.JoinedTies
import Derived.KernelRfl
namespace Go.Proofs.Ytogjafmpoepgbaa
/- THE CELL 'sum', in the pinned program and in every row, IS THE sha256 OF THE DUMP (.gsa) THAT YtogjafmpoepgbaaProg.lean LOADS. Nothing in Lean hashes anything: it is a label: what it is worth is what the hold of that sum in a sandbox is worth. -/
noncomputable def Try.pinned : Pinned := { name := "ytogjafmpoepgbaa", sum := "066a504a3a5eb5837d8b8557c1f946827e9097ca26299ead460e651b859b2cd1", checked := Try.checked }
namespace Rows
def none {H : Type} : Left H := { results := [], args := [] }

/-- 'breakwaterlaw04.CnfLooks': WHATEVER THE INPUT: true; the input reads as it did. -/
def cnfLooksSpec : ChangeSpec := { name := "cnfLooks", fn := fun _ => fun
  | [d1, d2, d3] => { results := [.lit (.bool true)], args := [d1, d2, d3] }
  | _ => none }
def cnfLooksRow : OpenClaim := { program := "ytogjafmpoepgbaa", sum := "066a504a3a5eb5837d8b8557c1f946827e9097ca26299ead460e651b859b2cd1", func := "breakwater/breakwaterlaw04.CnfLooks", spec := "cnfLooks", unfollowed := true, recurses := true, plainKeys := false, apart := false }
def CnfLooksSaid : Prop := cnfLooksRow.holds Try.pinned (OpenSpec.ofChange cnfLooksSpec)

/-- ITS FALSE NEIGHBOUR: 'it returns false'. Refute it at one input. -/
def cnfLooksWrong : ChangeSpec := { name := "cnfLooks", fn := fun _ => fun
  | [d1, d2, d3] => { results := [.lit (.bool false)], args := [d1, d2, d3] }
  | _ => none }
def CnfLooksWrongFalsely : Prop := cnfLooksRow.holds Try.pinned (OpenSpec.ofChange cnfLooksWrong)

/-- 'breakwaterlaw04.CnfCounts': WHATEVER THE INPUT: true; the input reads as it did. -/
def cnfCountsSpec : ChangeSpec := { name := "cnfCounts", fn := fun _ => fun
  | [d1, d2] => { results := [.lit (.bool true)], args := [d1, d2] }
  | _ => none }
def cnfCountsRow : OpenClaim := { program := "ytogjafmpoepgbaa", sum := "066a504a3a5eb5837d8b8557c1f946827e9097ca26299ead460e651b859b2cd1", func := "breakwater/breakwaterlaw04.CnfCounts", spec := "cnfCounts", unfollowed := true, recurses := true, plainKeys := false, apart := false }
def CnfCountsSaid : Prop := cnfCountsRow.holds Try.pinned (OpenSpec.ofChange cnfCountsSpec)

/-- ITS FALSE NEIGHBOUR: 'it returns false'. Refute it at one input. -/
def cnfCountsWrong : ChangeSpec := { name := "cnfCounts", fn := fun _ => fun
  | [d1, d2] => { results := [.lit (.bool false)], args := [d1, d2] }
  | _ => none }
def CnfCountsWrongFalsely : Prop := cnfCountsRow.holds Try.pinned (OpenSpec.ofChange cnfCountsWrong)

/-- 'breakwaterlaw04.CnfParts': WHATEVER THE INPUT: true; the input reads as it did. -/
def cnfPartsSpec : ChangeSpec := { name := "cnfParts", fn := fun _ => fun
  | [d1, d2, d3] => { results := [.lit (.bool true)], args := [d1, d2, d3] }
  | _ => none }
def cnfPartsRow : OpenClaim := { program := "ytogjafmpoepgbaa", sum := "066a504a3a5eb5837d8b8557c1f946827e9097ca26299ead460e651b859b2cd1", func := "breakwater/breakwaterlaw04.CnfParts", spec := "cnfParts", unfollowed := true, recurses := true, plainKeys := false, apart := false }
def CnfPartsSaid : Prop := cnfPartsRow.holds Try.pinned (OpenSpec.ofChange cnfPartsSpec)

/-- ITS FALSE NEIGHBOUR: 'it returns false'. Refute it at one input. -/
def cnfPartsWrong : ChangeSpec := { name := "cnfParts", fn := fun _ => fun
  | [d1, d2, d3] => { results := [.lit (.bool false)], args := [d1, d2, d3] }
  | _ => none }
def CnfPartsWrongFalsely : Prop := cnfPartsRow.holds Try.pinned (OpenSpec.ofChange cnfPartsWrong)

/- THE SECOND FORM. 'bulk': how many values and letters a reading holds, each counted each time it is reached (what is shared counts as often as it is met; a slice's spare places count too). A statement '..UptoSaid' is the law's where the arguments, and the package variables that the reading takes, are together of bulk at most 1048576: NARROWER than '..Said'. Prove '..Said' where nothing that the law and all that it calls make is longer than what came in: it says more and counts as full. Else prove '..UptoSaid'. A law counts once. -/
mutual
def uptoBulk {H : Type} : DataW H → Nat
  | .lit (.string bytes) => bytes.length + 1
  | .lit _ => 1
  | .nil => 1
  | .ptr d => uptoBulk d + 1
  | .slice elems spare => uptoBulkAll elems + uptoBulkAll spare + 1
  | .agg parts => uptoBulkAll parts + 1
  | .iface _ d => uptoBulk d + 1
  | .map entries => uptoBulkEntries entries + 1
  | .held _ => 1
def uptoBulkAll {H : Type} : List (DataW H) → Nat
  | [] => 0
  | d :: r => uptoBulk d + uptoBulkAll r
def uptoBulkEntries {H : Type} : List (Lit × DataW H) → Nat
  | [] => 0
  | x :: r => uptoBulkEntry x + uptoBulkEntries r
def uptoBulkEntry {H : Type} : Lit × DataW H → Nat
  | (.string bytes, d) => bytes.length + uptoBulk d + 1
  | (_, d) => uptoBulk d + 1
 end
def uptoSmall : (H : Type) → List (DataW H) → Bool := fun _ ds => decide (uptoBulkAll ds ≤ 1048576)
def OpenSpec.upto (s : _root_.Go.ChangeSpec) : _root_.Go.OpenSpec := { _root_.Go.OpenSpec.ofChange s with cond := some uptoSmall }

/-- 'breakwaterlaw04.CnfLooks', WHERE WHAT IT READS IS OF BULK AT MOST 1048576: true; the input reads as it did. -/
def cnfLooksUptoRow : OpenClaim := { program := "ytogjafmpoepgbaa", sum := "066a504a3a5eb5837d8b8557c1f946827e9097ca26299ead460e651b859b2cd1", func := "breakwater/breakwaterlaw04.CnfLooks", spec := "cnfLooks", unfollowed := true, recurses := true, plainKeys := false, apart := false, narrowed := true }
def CnfLooksUptoSaid : Prop := cnfLooksUptoRow.holds Try.pinned (OpenSpec.upto cnfLooksSpec)

/-- 'breakwaterlaw04.CnfCounts', WHERE WHAT IT READS IS OF BULK AT MOST 1048576: true; the input reads as it did. -/
def cnfCountsUptoRow : OpenClaim := { program := "ytogjafmpoepgbaa", sum := "066a504a3a5eb5837d8b8557c1f946827e9097ca26299ead460e651b859b2cd1", func := "breakwater/breakwaterlaw04.CnfCounts", spec := "cnfCounts", unfollowed := true, recurses := true, plainKeys := false, apart := false, narrowed := true }
def CnfCountsUptoSaid : Prop := cnfCountsUptoRow.holds Try.pinned (OpenSpec.upto cnfCountsSpec)

/-- 'breakwaterlaw04.CnfParts', WHERE WHAT IT READS IS OF BULK AT MOST 1048576: true; the input reads as it did. -/
def cnfPartsUptoRow : OpenClaim := { program := "ytogjafmpoepgbaa", sum := "066a504a3a5eb5837d8b8557c1f946827e9097ca26299ead460e651b859b2cd1", func := "breakwater/breakwaterlaw04.CnfParts", spec := "cnfParts", unfollowed := true, recurses := true, plainKeys := false, apart := false, narrowed := true }
def CnfPartsUptoSaid : Prop := cnfPartsUptoRow.holds Try.pinned (OpenSpec.upto cnfPartsSpec)

end Rows
end Go.Proofs.Ytogjafmpoepgbaa
