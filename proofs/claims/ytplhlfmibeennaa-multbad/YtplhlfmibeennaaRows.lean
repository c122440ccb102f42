/-
  No cell of these rows narrows 'for every input' (looked for: loops, veiled, ifaces, maps, wideKeys, modest, calm, conditions, laid).
  DERIVED. THE GIVEN ROWS OF THIS SEAT. 3 by the template 'for every input the law returns true; each argument reads behind the call as it read before'; 0 by the template 'total and deterministic' (their statements: YtplhlfmibeennaaTotals.lean).
  GIVEN WITH THE SEED: the statements are not yours to turn. If you find one false, say at which input.
  Laid BY PROGRAM, IN A SANDBOX (cutbox-rows.mjs): the forced cells as the released guide's own fill.sh prints them over the translation 526865999282ea16… (all of the seat's roots in one cut). By AI agents, Wed Nov 11 2026. No macro, syntax, notation, axiom, sorry.
-/
import Derived.Test.YtplhlfmibeennaaChecked
import GoSem.Claim
import GoSem.ClaimJoined
import GoSem.ClaimMapViews
import Derived.JoinedTies
import Derived.KernelRfl
namespace Go.Proofs.Ytplhlfmibeennaa
/- THE CELL 'sum', in the pinned program and in every row, IS THE sha256 OF THE DUMP (.gsa) THAT YtplhlfmibeennaaProg.lean LOADS. Nothing in Lean hashes anything: it is a label: what it is worth is what the hold of that sum in a sandbox is worth. -/
noncomputable def Try.pinned : Pinned := { name := "ytplhlfmibeennaa", sum := "526865999282ea162d457f1c5bf29ce429218a276ccb34cf39639360c377ad98", checked := Try.checked }
namespace Rows
def none {H : Type} : Left H := { results := [], args := [] }

/-- 'breakwaterlaw21.MultMeans': WHATEVER THE INPUT: true; the input reads as it did. -/
def multMeansSpec : ChangeSpec := { name := "multMeans", fn := fun _ => fun
  | [d] => { results := [.lit (.bool true)], args := [d] }
  | _ => none }
def multMeansRow : OpenClaim := { program := "ytplhlfmibeennaa", sum := "526865999282ea162d457f1c5bf29ce429218a276ccb34cf39639360c377ad98", func := "breakwater/breakwaterlaw21.MultMeans", spec := "multMeans", unfollowed := true, recurses := true, apart := false }
def MultMeansSaid : Prop := multMeansRow.holds Try.pinned (OpenSpec.ofChange multMeansSpec)

/-- ITS FALSE NEIGHBOUR: 'it returns false'. Refute it at one input. -/
def multMeansWrong : ChangeSpec := { name := "multMeans", fn := fun _ => fun
  | [d] => { results := [.lit (.bool false)], args := [d] }
  | _ => none }
def MultMeansWrongFalsely : Prop := multMeansRow.holds Try.pinned (OpenSpec.ofChange multMeansWrong)

/-- 'breakwaterlaw21.MultDivides': WHATEVER THE INPUT: true; the input reads as it did. -/
def multDividesSpec : ChangeSpec := { name := "multDivides", fn := fun _ => fun
  | [d] => { results := [.lit (.bool true)], args := [d] }
  | _ => none }
def multDividesRow : OpenClaim := { program := "ytplhlfmibeennaa", sum := "526865999282ea162d457f1c5bf29ce429218a276ccb34cf39639360c377ad98", func := "breakwater/breakwaterlaw21.MultDivides", spec := "multDivides", unfollowed := true, recurses := true, apart := false }
def MultDividesSaid : Prop := multDividesRow.holds Try.pinned (OpenSpec.ofChange multDividesSpec)

/-- ITS FALSE NEIGHBOUR: 'it returns false'. Refute it at one input. -/
def multDividesWrong : ChangeSpec := { name := "multDivides", fn := fun _ => fun
  | [d] => { results := [.lit (.bool false)], args := [d] }
  | _ => none }
def MultDividesWrongFalsely : Prop := multDividesRow.holds Try.pinned (OpenSpec.ofChange multDividesWrong)

/-- 'breakwaterlaw21.MultBad': WHATEVER THE INPUT: true; the input reads as it did. -/
def multBadSpec : ChangeSpec := { name := "multBad", fn := fun _ => fun
  | [d1, d2] => { results := [.lit (.bool true)], args := [d1, d2] }
  | _ => none }
def multBadRow : OpenClaim := { program := "ytplhlfmibeennaa", sum := "526865999282ea162d457f1c5bf29ce429218a276ccb34cf39639360c377ad98", func := "breakwater/breakwaterlaw21.MultBad", spec := "multBad", unfollowed := true, recurses := true, apart := false }
def MultBadSaid : Prop := multBadRow.holds Try.pinned (OpenSpec.ofChange multBadSpec)

/-- ITS FALSE NEIGHBOUR: 'it returns false'. Refute it at one input. -/
def multBadWrong : ChangeSpec := { name := "multBad", fn := fun _ => fun
  | [d1, d2] => { results := [.lit (.bool false)], args := [d1, d2] }
  | _ => none }
def MultBadWrongFalsely : Prop := multBadRow.holds Try.pinned (OpenSpec.ofChange multBadWrong)

/- THE SECOND FORM. 'bulk': how many values and letters a reading holds, each counted each time it is reached (what is shared counts as often as it is met; a slice's spare places count too). A statement '..UptoSaid' is the law's where the arguments, and the package variables that the reading takes, are together of bulk at most 1048576: NARROWER than '..Said'. Prove '..Said' where nothing that the law and all that it calls make is longer than what came in: it says more and counts as full. Else prove '..UptoSaid'. A law counts once. -/
mutual
def uptoBulk {H : Type} : DataW H → Nat
  | .lit (.string bytes) => bytes.length + 1
  | .lit _ => 1
  | .nil => 1
  | .ptr d => uptoBulk d + 1
  | .slice elems spare => uptoBulkAll elems + uptoBulkAll spare + 1
  | .agg parts => uptoBulkAll parts + 1
  | .iface _ d => uptoBulk d + 1
  | .map entries => uptoBulkEntries entries + 1
  | .held _ => 1
def uptoBulkAll {H : Type} : List (DataW H) → Nat
  | [] => 0
  | d :: r => uptoBulk d + uptoBulkAll r
def uptoBulkEntries {H : Type} : List (Lit × DataW H) → Nat
  | [] => 0
  | x :: r => uptoBulkEntry x + uptoBulkEntries r
def uptoBulkEntry {H : Type} : Lit × DataW H → Nat
  | (.string bytes, d) => bytes.length + uptoBulk d + 1
  | (_, d) => uptoBulk d + 1
 end
def uptoSmall : (H : Type) → List (DataW H) → Bool := fun _ ds => decide (uptoBulkAll ds ≤ 1048576)
def OpenSpec.upto (s : _root_.Go.ChangeSpec) : _root_.Go.OpenSpec := { _root_.Go.OpenSpec.ofChange s with cond := some uptoSmall }

/-- 'breakwaterlaw21.MultMeans', WHERE WHAT IT READS IS OF BULK AT MOST 1048576: true; the input reads as it did. -/
def multMeansUptoRow : OpenClaim := { program := "ytplhlfmibeennaa", sum := "526865999282ea162d457f1c5bf29ce429218a276ccb34cf39639360c377ad98", func := "breakwater/breakwaterlaw21.MultMeans", spec := "multMeans", unfollowed := true, recurses := true, apart := false, narrowed := true }
def MultMeansUptoSaid : Prop := multMeansUptoRow.holds Try.pinned (OpenSpec.upto multMeansSpec)

/-- 'breakwaterlaw21.MultDivides', WHERE WHAT IT READS IS OF BULK AT MOST 1048576: true; the input reads as it did. -/
def multDividesUptoRow : OpenClaim := { program := "ytplhlfmibeennaa", sum := "526865999282ea162d457f1c5bf29ce429218a276ccb34cf39639360c377ad98", func := "breakwater/breakwaterlaw21.MultDivides", spec := "multDivides", unfollowed := true, recurses := true, apart := false, narrowed := true }
def MultDividesUptoSaid : Prop := multDividesUptoRow.holds Try.pinned (OpenSpec.upto multDividesSpec)

/-- 'breakwaterlaw21.MultBad', WHERE WHAT IT READS IS OF BULK AT MOST 1048576: true; the input reads as it did. -/
def multBadUptoRow : OpenClaim := { program := "ytplhlfmibeennaa", sum := "526865999282ea162d457f1c5bf29ce429218a276ccb34cf39639360c377ad98", func := "breakwater/breakwaterlaw21.MultBad", spec := "multBad", unfollowed := true, recurses := true, apart := false, narrowed := true }
def MultBadUptoSaid : Prop := multBadUptoRow.holds Try.pinned (OpenSpec.upto multBadSpec)

end Rows
end Go.Proofs.Ytplhlfmibeennaa
