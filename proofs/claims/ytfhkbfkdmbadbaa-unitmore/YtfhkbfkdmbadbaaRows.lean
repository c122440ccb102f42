/-
  No cell of these rows narrows 'for every input' (looked for: loops, veiled, ifaces, maps, wideKeys, modest, calm, conditions, laid).
  DERIVED. THE GIVEN ROWS OF THIS SEAT. 3 by the template 'for every input the law returns true; each argument reads behind the call as it read before'; 0 by the template 'total and deterministic' (their statements: YtfhkbfkdmbadbaaTotals.lean).
  GIVEN WITH THE SEED: the statements are not yours to turn. If you find one false, say at which input.
  Laid BY PROGRAM, IN A SANDBOX (cutbox-rows.mjs): the forced cells as the released guide's own fill.sh prints them over the translation 0b4a8b1dfad68ddd… (all of the seat's roots in one cut). By AI agents, Wed Nov 11 2026. No macro, syntax, notation, axiom, sorry.
-/
import Derived.Test.YtfhkbfkdmbadbaaChecked
import GoSem.Claim
import GoSem.ClaimJoined
import GoSem.ClaimMapViews
import Derived.JoinedTies
import Derived.KernelRfl
namespace Go.Proofs.Ytfhkbfkdmbadbaa
/- THE CELL 'sum', in the pinned program and in every row, IS THE sha256 OF THE DUMP (.gsa) THAT YtfhkbfkdmbadbaaProg.lean LOADS. Nothing in Lean hashes anything: it is a label: what it is worth is what the hold of that sum in a sandbox is worth. -/
noncomputable def Try.pinned : Pinned := { name := "ytfhkbfkdmbadbaa", sum := "0b4a8b1dfad68ddd87d2fe41f55055a77545162ff0574726adb2d9947f89f282", checked := Try.checked }
namespace Rows
def none {H : Type} : Left H := { results := [], args := [] }

/-- 'breakwaterlaw06.UnitCloses': WHATEVER THE INPUT: true; the input reads as it did. -/
def unitClosesSpec : ChangeSpec := { name := "unitCloses", fn := fun _ => fun
  | [d1, d2, d3] => { results := [.lit (.bool true)], args := [d1, d2, d3] }
  | _ => none }
def unitClosesRow : OpenClaim := { program := "ytfhkbfkdmbadbaa", sum := "0b4a8b1dfad68ddd87d2fe41f55055a77545162ff0574726adb2d9947f89f282", func := "breakwater/breakwaterlaw06.UnitCloses", spec := "unitCloses", unfollowed := true, recurses := true, apart := false }
def UnitClosesSaid : Prop := unitClosesRow.holds Try.pinned (OpenSpec.ofChange unitClosesSpec)

/-- ITS FALSE NEIGHBOUR: 'it returns false'. Refute it at one input. -/
def unitClosesWrong : ChangeSpec := { name := "unitCloses", fn := fun _ => fun
  | [d1, d2, d3] => { results := [.lit (.bool false)], args := [d1, d2, d3] }
  | _ => none }
def UnitClosesWrongFalsely : Prop := unitClosesRow.holds Try.pinned (OpenSpec.ofChange unitClosesWrong)

/-- 'breakwaterlaw06.UnitSound': WHATEVER THE INPUT: true; the input reads as it did. -/
def unitSoundSpec : ChangeSpec := { name := "unitSound", fn := fun _ => fun
  | [d1, d2, d3] => { results := [.lit (.bool true)], args := [d1, d2, d3] }
  | _ => none }
def unitSoundRow : OpenClaim := { program := "ytfhkbfkdmbadbaa", sum := "0b4a8b1dfad68ddd87d2fe41f55055a77545162ff0574726adb2d9947f89f282", func := "breakwater/breakwaterlaw06.UnitSound", spec := "unitSound", unfollowed := true, recurses := true, apart := false }
def UnitSoundSaid : Prop := unitSoundRow.holds Try.pinned (OpenSpec.ofChange unitSoundSpec)

/-- ITS FALSE NEIGHBOUR: 'it returns false'. Refute it at one input. -/
def unitSoundWrong : ChangeSpec := { name := "unitSound", fn := fun _ => fun
  | [d1, d2, d3] => { results := [.lit (.bool false)], args := [d1, d2, d3] }
  | _ => none }
def UnitSoundWrongFalsely : Prop := unitSoundRow.holds Try.pinned (OpenSpec.ofChange unitSoundWrong)

/-- 'breakwaterlaw06.UnitMore': WHATEVER THE INPUT: true; the input reads as it did. -/
def unitMoreSpec : ChangeSpec := { name := "unitMore", fn := fun _ => fun
  | [d1, d2, d3] => { results := [.lit (.bool true)], args := [d1, d2, d3] }
  | _ => none }
def unitMoreRow : OpenClaim := { program := "ytfhkbfkdmbadbaa", sum := "0b4a8b1dfad68ddd87d2fe41f55055a77545162ff0574726adb2d9947f89f282", func := "breakwater/breakwaterlaw06.UnitMore", spec := "unitMore", unfollowed := true, recurses := true, apart := false }
def UnitMoreSaid : Prop := unitMoreRow.holds Try.pinned (OpenSpec.ofChange unitMoreSpec)

/-- ITS FALSE NEIGHBOUR: 'it returns false'. Refute it at one input. -/
def unitMoreWrong : ChangeSpec := { name := "unitMore", fn := fun _ => fun
  | [d1, d2, d3] => { results := [.lit (.bool false)], args := [d1, d2, d3] }
  | _ => none }
def UnitMoreWrongFalsely : Prop := unitMoreRow.holds Try.pinned (OpenSpec.ofChange unitMoreWrong)

/- THE SECOND FORM. 'bulk': how many values and letters a reading holds, each counted each time it is reached (what is shared counts as often as it is met; a slice's spare places count too). A statement '..UptoSaid' is the law's where the arguments, and the package variables that the reading takes, are together of bulk at most 1048576: NARROWER than '..Said'. Prove '..Said' where nothing that the law and all that it calls make is longer than what came in: it says more and counts as full. Else prove '..UptoSaid'. A law counts once. -/
mutual
def uptoBulk {H : Type} : DataW H → Nat
  | .lit (.string bytes) => bytes.length + 1
  | .lit _ => 1
  | .nil => 1
  | .ptr d => uptoBulk d + 1
  | .slice elems spare => uptoBulkAll elems + uptoBulkAll spare + 1
  | .agg parts => uptoBulkAll parts + 1
  | .iface _ d => uptoBulk d + 1
  | .map entries => uptoBulkEntries entries + 1
  | .held _ => 1
def uptoBulkAll {H : Type} : List (DataW H) → Nat
  | [] => 0
  | d :: r => uptoBulk d + uptoBulkAll r
def uptoBulkEntries {H : Type} : List (Lit × DataW H) → Nat
  | [] => 0
  | x :: r => uptoBulkEntry x + uptoBulkEntries r
def uptoBulkEntry {H : Type} : Lit × DataW H → Nat
  | (.string bytes, d) => bytes.length + uptoBulk d + 1
  | (_, d) => uptoBulk d + 1
 end
def uptoSmall : (H : Type) → List (DataW H) → Bool := fun _ ds => decide (uptoBulkAll ds ≤ 1048576)
def OpenSpec.upto (s : _root_.Go.ChangeSpec) : _root_.Go.OpenSpec := { _root_.Go.OpenSpec.ofChange s with cond := some uptoSmall }

/-- 'breakwaterlaw06.UnitCloses', WHERE WHAT IT READS IS OF BULK AT MOST 1048576: true; the input reads as it did. -/
def unitClosesUptoRow : OpenClaim := { program := "ytfhkbfkdmbadbaa", sum := "0b4a8b1dfad68ddd87d2fe41f55055a77545162ff0574726adb2d9947f89f282", func := "breakwater/breakwaterlaw06.UnitCloses", spec := "unitCloses", unfollowed := true, recurses := true, apart := false, narrowed := true }
def UnitClosesUptoSaid : Prop := unitClosesUptoRow.holds Try.pinned (OpenSpec.upto unitClosesSpec)

/-- 'breakwaterlaw06.UnitSound', WHERE WHAT IT READS IS OF BULK AT MOST 1048576: true; the input reads as it did. -/
def unitSoundUptoRow : OpenClaim := { program := "ytfhkbfkdmbadbaa", sum := "0b4a8b1dfad68ddd87d2fe41f55055a77545162ff0574726adb2d9947f89f282", func := "breakwater/breakwaterlaw06.UnitSound", spec := "unitSound", unfollowed := true, recurses := true, apart := false, narrowed := true }
def UnitSoundUptoSaid : Prop := unitSoundUptoRow.holds Try.pinned (OpenSpec.upto unitSoundSpec)

/-- 'breakwaterlaw06.UnitMore', WHERE WHAT IT READS IS OF BULK AT MOST 1048576: true; the input reads as it did. -/
def unitMoreUptoRow : OpenClaim := { program := "ytfhkbfkdmbadbaa", sum := "0b4a8b1dfad68ddd87d2fe41f55055a77545162ff0574726adb2d9947f89f282", func := "breakwater/breakwaterlaw06.UnitMore", spec := "unitMore", unfollowed := true, recurses := true, apart := false, narrowed := true }
def UnitMoreUptoSaid : Prop := unitMoreUptoRow.holds Try.pinned (OpenSpec.upto unitMoreSpec)

end Rows
end Go.Proofs.Ytfhkbfkdmbadbaa
