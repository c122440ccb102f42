/-
  DERIVED. GIVEN WITH THE SEED: THE CARDS: each row of YtdhkabppcdnfeaaDoorRows.lean that lists a variable, with what it lists TIED to the program's text (the seventh form; the later family's looks); each row that meets fmt, with fmt's text TOLD by the authors' own Lean function (tested against real Go, not proved from fmt's source: count such statements apart). THE CARD IS WHAT COUNTS. Prove the row's statement (the work); the ties are given (YtdhkabppcdnfeaaDoorTie.lean); close each card by the builder's one call (the guide's Derived/Test/ToyasCard.lean, 'card_holds'). Laid BY PROGRAM, IN A SANDBOX (cutbox-door.mjs). By AI agents, Wed Nov 11 2026. No macro, syntax, notation, axiom, sorry.
-/
import Derived.Test.YtdhkabppcdnfeaaDoorRows
import GoSem.ClaimSeven
namespace Go.Proofs.YtdhkabppcdnfeaaDoor
namespace Rows

/-- THE TIED CARD OF 'breakwaterlaw05.DimacsPuts'. -/
def dimacsPutsCard : Claim7 := { stood := { row := dimacsPutsRow, standIns := [], harness := (true, "fabd1c6cfcd5b3f67135b09e5a218639855cf61cfcd40271c0513a80265fa15c"), looks := true }, kinds := [], alts := [], laidByText := true, laidKinds := [.data, .data, .data, .handle], laidTests := true, laidLooks := .later }
def DimacsPutsCardSaid : Prop := Claim7.holds Tryd.pinned (.plain (OpenSpec.ofChange dimacsPutsSpec)) dimacsPutsCard

/-- THE TIED CARD OF 'breakwaterlaw05.DimacsReads'. -/
def dimacsReadsCard : Claim7 := { stood := { row := dimacsReadsRow, standIns := [], harness := (true, "fabd1c6cfcd5b3f67135b09e5a218639855cf61cfcd40271c0513a80265fa15c"), looks := true }, kinds := [], alts := [], laidByText := true, laidKinds := [.data, .data, .data, .handle], laidTests := true, laidLooks := .later }
def DimacsReadsCardSaid : Prop := Claim7.holds Tryd.pinned (.plain (OpenSpec.ofChange dimacsReadsSpec)) dimacsReadsCard

/-- THE TIED CARD OF 'breakwaterlaw05.DimacsBack'. -/
def dimacsBackCard : Claim7 := { stood := { row := dimacsBackRow, standIns := [], harness := (true, "fabd1c6cfcd5b3f67135b09e5a218639855cf61cfcd40271c0513a80265fa15c"), looks := true }, kinds := [], alts := [], laidByText := true, laidKinds := [.data, .data, .data, .handle], laidTests := true, laidLooks := .later }
def DimacsBackCardSaid : Prop := Claim7.holds Tryd.pinned (.plain (OpenSpec.ofChange dimacsBackSpec)) dimacsBackCard

/-- THE SECOND FORM's CARD OF 'breakwaterlaw05.DimacsPuts'. -/
def dimacsPutsUptoCard : Claim7 := { stood := { row := dimacsPutsUptoRow, standIns := [], harness := (true, "fabd1c6cfcd5b3f67135b09e5a218639855cf61cfcd40271c0513a80265fa15c"), looks := true }, kinds := [], alts := [], laidByText := true, laidKinds := [.data, .data, .data, .handle], laidTests := true, laidLooks := .later }
def DimacsPutsUptoCardSaid : Prop := Claim7.holds Tryd.pinned (.plain (OpenSpec.upto dimacsPutsSpec)) dimacsPutsUptoCard

/-- THE SECOND FORM's CARD OF 'breakwaterlaw05.DimacsReads'. -/
def dimacsReadsUptoCard : Claim7 := { stood := { row := dimacsReadsUptoRow, standIns := [], harness := (true, "fabd1c6cfcd5b3f67135b09e5a218639855cf61cfcd40271c0513a80265fa15c"), looks := true }, kinds := [], alts := [], laidByText := true, laidKinds := [.data, .data, .data, .handle], laidTests := true, laidLooks := .later }
def DimacsReadsUptoCardSaid : Prop := Claim7.holds Tryd.pinned (.plain (OpenSpec.upto dimacsReadsSpec)) dimacsReadsUptoCard

/-- THE SECOND FORM's CARD OF 'breakwaterlaw05.DimacsBack'. -/
def dimacsBackUptoCard : Claim7 := { stood := { row := dimacsBackUptoRow, standIns := [], harness := (true, "fabd1c6cfcd5b3f67135b09e5a218639855cf61cfcd40271c0513a80265fa15c"), looks := true }, kinds := [], alts := [], laidByText := true, laidKinds := [.data, .data, .data, .handle], laidTests := true, laidLooks := .later }
def DimacsBackUptoCardSaid : Prop := Claim7.holds Tryd.pinned (.plain (OpenSpec.upto dimacsBackSpec)) dimacsBackUptoCard
end Rows
end Go.Proofs.YtdhkabppcdnfeaaDoor
