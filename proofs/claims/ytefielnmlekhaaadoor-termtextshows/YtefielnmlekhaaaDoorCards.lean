/-
  DERIVED. GIVEN WITH THE SEED: THE CARDS: each row of YtefielnmlekhaaaDoorRows.lean that lists a variable, with what it lists TIED to the program's text (the seventh form; the later family's looks); each row that meets fmt, with fmt's text TOLD by the authors' own Lean function (tested against real Go, not proved from fmt's source: count such statements apart). THE CARD IS WHAT COUNTS. Prove the row's statement (the work); the ties are given (YtefielnmlekhaaaDoorTie.lean); close each card by the builder's one call (the guide's Derived/Test/ToyasCard.lean, 'card_holds'). Laid BY PROGRAM, IN A SANDBOX (cutbox-door.mjs). By AI agents, Wed Nov 11 2026. No macro, syntax, notation, axiom, sorry.
-/
import Derived.Test.YtefielnmlekhaaaDoorRows
import GoSem.ClaimSeven
namespace Go.Proofs.YtefielnmlekhaaaDoor
namespace Rows

/-- THE TIED CARD OF 'breakwaterlaw18.TermtextShows'. -/
def termtextShowsCard : Claim7 := { stood := { row := termtextShowsRow, standIns := [], harness := (true, "58901c9a68594387290be4c46bf60bcc9a25c068cf4d5320d6cee54545a5d574"), looks := true }, kinds := [], alts := [], laidByText := true, laidKinds := [.data, .data, .data, .data, .sentinel, .sentinel], laidTests := true, laidLooks := .later }
def TermtextShowsCardSaid : Prop := Claim7.holds Tryd.pinned (.plain (OpenSpec.ofChange termtextShowsSpec)) termtextShowsCard

/-- THE TIED CARD OF 'breakwaterlaw18.TermtextApart'. -/
def termtextApartCard : Claim7 := { stood := { row := termtextApartRow, standIns := [], harness := (true, "58901c9a68594387290be4c46bf60bcc9a25c068cf4d5320d6cee54545a5d574"), looks := true }, kinds := [], alts := [], laidByText := true, laidKinds := [.data, .data, .data, .data, .sentinel, .sentinel], laidTests := true, laidLooks := .later }
def TermtextApartCardSaid : Prop := Claim7.holds Tryd.pinned (.plain (OpenSpec.ofChange termtextApartSpec)) termtextApartCard

/-- THE SECOND FORM's CARD OF 'breakwaterlaw18.TermtextShows'. -/
def termtextShowsUptoCard : Claim7 := { stood := { row := termtextShowsUptoRow, standIns := [], harness := (true, "58901c9a68594387290be4c46bf60bcc9a25c068cf4d5320d6cee54545a5d574"), looks := true }, kinds := [], alts := [], laidByText := true, laidKinds := [.data, .data, .data, .data, .sentinel, .sentinel], laidTests := true, laidLooks := .later }
def TermtextShowsUptoCardSaid : Prop := Claim7.holds Tryd.pinned (.plain (OpenSpec.upto termtextShowsSpec)) termtextShowsUptoCard

/-- THE SECOND FORM's CARD OF 'breakwaterlaw18.TermtextApart'. -/
def termtextApartUptoCard : Claim7 := { stood := { row := termtextApartUptoRow, standIns := [], harness := (true, "58901c9a68594387290be4c46bf60bcc9a25c068cf4d5320d6cee54545a5d574"), looks := true }, kinds := [], alts := [], laidByText := true, laidKinds := [.data, .data, .data, .data, .sentinel, .sentinel], laidTests := true, laidLooks := .later }
def TermtextApartUptoCardSaid : Prop := Claim7.holds Tryd.pinned (.plain (OpenSpec.upto termtextApartSpec)) termtextApartUptoCard
end Rows
end Go.Proofs.YtefielnmlekhaaaDoor
