/-
  No cell of these rows narrows 'for every input' (looked for: loops, veiled, ifaces, maps, wideKeys, modest, calm, conditions, laid).
  DERIVED. THE GIVEN ROWS OF THIS SEAT. 4 by the template 'for every input the law returns true; each argument reads behind the call as it read before'; 0 by the template 'total and deterministic' (their statements: YtimfjoinjfecjaaGreatTotals.lean).
  GIVEN WITH THE SEED: the statements are not yours to turn. If you find one false, say at which input.
  Laid BY PROGRAM, IN A SANDBOX (cutbox-rows.mjs): the forced cells as the released guide's own fill.sh prints them over the translation 2d54bc011ecb9d74… (all of the seat's roots in one cut). By AI agents, Wed Nov 11 2026. No macro, syntax, notation, axiom, sorry.
-/
import Derived.Test.YtimfjoinjfecjaaGreatChecked
import GoSem.Claim
import GoSem.ClaimJoined
import GoSem.ClaimMapViews
import Derived.JoinedTies
import Derived.KernelRfl
namespace Go.Proofs.YtimfjoinjfecjaaGreat
/- THE CELL 'sum', in the pinned program and in every row, IS THE sha256 OF THE DUMP (.gsa) THAT YtimfjoinjfecjaaGreatProg.lean LOADS. Nothing in Lean hashes anything: it is a label: what it is worth is what the hold of that sum in a sandbox is worth. -/
noncomputable def Tryz.pinned : Pinned := { name := "ytimfjoinjfecjaagreat", sum := "2d54bc011ecb9d744a14e013188d13a2ebb7b9223254b1aa07a114f5a5bd56f7", checked := Tryz.checked }
namespace Rows
def none {H : Type} : Left H := { results := [], args := [] }

/-- 'breakwaterlaw14.SatSound': WHATEVER THE INPUT: true; the input reads as it did. -/
def satSoundSpec : ChangeSpec := { name := "satSound", fn := fun _ => fun
  | [d1, d2, d3] => { results := [.lit (.bool true)], args := [d1, d2, d3] }
  | _ => none }
def satSoundRow : OpenClaim := { program := "ytimfjoinjfecjaagreat", sum := "2d54bc011ecb9d744a14e013188d13a2ebb7b9223254b1aa07a114f5a5bd56f7", func := "breakwater/breakwaterlaw14.SatSound", spec := "satSound", unfollowed := true, recurses := true, apart := false }
def SatSoundSaid : Prop := satSoundRow.holds Tryz.pinned (OpenSpec.ofChange satSoundSpec)

/-- ITS FALSE NEIGHBOUR: 'it returns false'. Refute it at one input. -/
def satSoundWrong : ChangeSpec := { name := "satSound", fn := fun _ => fun
  | [d1, d2, d3] => { results := [.lit (.bool false)], args := [d1, d2, d3] }
  | _ => none }
def SatSoundWrongFalsely : Prop := satSoundRow.holds Tryz.pinned (OpenSpec.ofChange satSoundWrong)

/-- 'breakwaterlaw14.SatWhole': WHATEVER THE INPUT: true; the input reads as it did. -/
def satWholeSpec : ChangeSpec := { name := "satWhole", fn := fun _ => fun
  | [d1, d2] => { results := [.lit (.bool true)], args := [d1, d2] }
  | _ => none }
def satWholeRow : OpenClaim := { program := "ytimfjoinjfecjaagreat", sum := "2d54bc011ecb9d744a14e013188d13a2ebb7b9223254b1aa07a114f5a5bd56f7", func := "breakwater/breakwaterlaw14.SatWhole", spec := "satWhole", unfollowed := true, recurses := true, apart := false }
def SatWholeSaid : Prop := satWholeRow.holds Tryz.pinned (OpenSpec.ofChange satWholeSpec)

/-- ITS FALSE NEIGHBOUR: 'it returns false'. Refute it at one input. -/
def satWholeWrong : ChangeSpec := { name := "satWhole", fn := fun _ => fun
  | [d1, d2] => { results := [.lit (.bool false)], args := [d1, d2] }
  | _ => none }
def SatWholeWrongFalsely : Prop := satWholeRow.holds Tryz.pinned (OpenSpec.ofChange satWholeWrong)

/-- 'breakwaterlaw14.SatMore': WHATEVER THE INPUT: true; the input reads as it did. -/
def satMoreSpec : ChangeSpec := { name := "satMore", fn := fun _ => fun
  | [d1, d2, d3] => { results := [.lit (.bool true)], args := [d1, d2, d3] }
  | _ => none }
def satMoreRow : OpenClaim := { program := "ytimfjoinjfecjaagreat", sum := "2d54bc011ecb9d744a14e013188d13a2ebb7b9223254b1aa07a114f5a5bd56f7", func := "breakwater/breakwaterlaw14.SatMore", spec := "satMore", unfollowed := true, recurses := true, apart := false }
def SatMoreSaid : Prop := satMoreRow.holds Tryz.pinned (OpenSpec.ofChange satMoreSpec)

/-- ITS FALSE NEIGHBOUR: 'it returns false'. Refute it at one input. -/
def satMoreWrong : ChangeSpec := { name := "satMore", fn := fun _ => fun
  | [d1, d2, d3] => { results := [.lit (.bool false)], args := [d1, d2, d3] }
  | _ => none }
def SatMoreWrongFalsely : Prop := satMoreRow.holds Tryz.pinned (OpenSpec.ofChange satMoreWrong)

/-- 'breakwaterlaw14.SatAgain': WHATEVER THE INPUT: true; the input reads as it did. -/
def satAgainSpec : ChangeSpec := { name := "satAgain", fn := fun _ => fun
  | [d1, d2, d3] => { results := [.lit (.bool true)], args := [d1, d2, d3] }
  | _ => none }
def satAgainRow : OpenClaim := { program := "ytimfjoinjfecjaagreat", sum := "2d54bc011ecb9d744a14e013188d13a2ebb7b9223254b1aa07a114f5a5bd56f7", func := "breakwater/breakwaterlaw14.SatAgain", spec := "satAgain", unfollowed := true, recurses := true, apart := false }
def SatAgainSaid : Prop := satAgainRow.holds Tryz.pinned (OpenSpec.ofChange satAgainSpec)

/-- ITS FALSE NEIGHBOUR: 'it returns false'. Refute it at one input. -/
def satAgainWrong : ChangeSpec := { name := "satAgain", fn := fun _ => fun
  | [d1, d2, d3] => { results := [.lit (.bool false)], args := [d1, d2, d3] }
  | _ => none }
def SatAgainWrongFalsely : Prop := satAgainRow.holds Tryz.pinned (OpenSpec.ofChange satAgainWrong)

/- THE SECOND FORM. 'bulk': how many values and letters a reading holds, each counted each time it is reached (what is shared counts as often as it is met; a slice's spare places count too). A statement '..UptoSaid' is the law's where the arguments, and the package variables that the reading takes, are together of bulk at most 1048576: NARROWER than '..Said'. Prove '..Said' where nothing that the law and all that it calls make is longer than what came in: it says more and counts as full. Else prove '..UptoSaid'. A law counts once. -/
mutual
def uptoBulk {H : Type} : DataW H → Nat
  | .lit (.string bytes) => bytes.length + 1
  | .lit _ => 1
  | .nil => 1
  | .ptr d => uptoBulk d + 1
  | .slice elems spare => uptoBulkAll elems + uptoBulkAll spare + 1
  | .agg parts => uptoBulkAll parts + 1
  | .iface _ d => uptoBulk d + 1
  | .map entries => uptoBulkEntries entries + 1
  | .held _ => 1
def uptoBulkAll {H : Type} : List (DataW H) → Nat
  | [] => 0
  | d :: r => uptoBulk d + uptoBulkAll r
def uptoBulkEntries {H : Type} : List (Lit × DataW H) → Nat
  | [] => 0
  | x :: r => uptoBulkEntry x + uptoBulkEntries r
def uptoBulkEntry {H : Type} : Lit × DataW H → Nat
  | (.string bytes, d) => bytes.length + uptoBulk d + 1
  | (_, d) => uptoBulk d + 1
 end
def uptoSmall : (H : Type) → List (DataW H) → Bool := fun _ ds => decide (uptoBulkAll ds ≤ 1048576)
def OpenSpec.upto (s : _root_.Go.ChangeSpec) : _root_.Go.OpenSpec := { _root_.Go.OpenSpec.ofChange s with cond := some uptoSmall }

/-- 'breakwaterlaw14.SatSound', WHERE WHAT IT READS IS OF BULK AT MOST 1048576: true; the input reads as it did. -/
def satSoundUptoRow : OpenClaim := { program := "ytimfjoinjfecjaagreat", sum := "2d54bc011ecb9d744a14e013188d13a2ebb7b9223254b1aa07a114f5a5bd56f7", func := "breakwater/breakwaterlaw14.SatSound", spec := "satSound", unfollowed := true, recurses := true, apart := false, narrowed := true }
def SatSoundUptoSaid : Prop := satSoundUptoRow.holds Tryz.pinned (OpenSpec.upto satSoundSpec)

/-- 'breakwaterlaw14.SatWhole', WHERE WHAT IT READS IS OF BULK AT MOST 1048576: true; the input reads as it did. -/
def satWholeUptoRow : OpenClaim := { program := "ytimfjoinjfecjaagreat", sum := "2d54bc011ecb9d744a14e013188d13a2ebb7b9223254b1aa07a114f5a5bd56f7", func := "breakwater/breakwaterlaw14.SatWhole", spec := "satWhole", unfollowed := true, recurses := true, apart := false, narrowed := true }
def SatWholeUptoSaid : Prop := satWholeUptoRow.holds Tryz.pinned (OpenSpec.upto satWholeSpec)

/-- 'breakwaterlaw14.SatMore', WHERE WHAT IT READS IS OF BULK AT MOST 1048576: true; the input reads as it did. -/
def satMoreUptoRow : OpenClaim := { program := "ytimfjoinjfecjaagreat", sum := "2d54bc011ecb9d744a14e013188d13a2ebb7b9223254b1aa07a114f5a5bd56f7", func := "breakwater/breakwaterlaw14.SatMore", spec := "satMore", unfollowed := true, recurses := true, apart := false, narrowed := true }
def SatMoreUptoSaid : Prop := satMoreUptoRow.holds Tryz.pinned (OpenSpec.upto satMoreSpec)

/-- 'breakwaterlaw14.SatAgain', WHERE WHAT IT READS IS OF BULK AT MOST 1048576: true; the input reads as it did. -/
def satAgainUptoRow : OpenClaim := { program := "ytimfjoinjfecjaagreat", sum := "2d54bc011ecb9d744a14e013188d13a2ebb7b9223254b1aa07a114f5a5bd56f7", func := "breakwater/breakwaterlaw14.SatAgain", spec := "satAgain", unfollowed := true, recurses := true, apart := false, narrowed := true }
def SatAgainUptoSaid : Prop := satAgainUptoRow.holds Tryz.pinned (OpenSpec.upto satAgainSpec)

end Rows
end Go.Proofs.YtimfjoinjfecjaaGreat
