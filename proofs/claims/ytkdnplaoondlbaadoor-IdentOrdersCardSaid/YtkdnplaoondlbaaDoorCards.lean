/-
  DERIVED. GIVEN WITH THE SEED: THE CARDS: each row of YtkdnplaoondlbaaDoorRows.lean that lists a variable, with what it lists TIED to the program's text (the seventh form; the later family's looks); each row that meets fmt, with fmt's text TOLD by the authors' own Lean function (tested against real Go, not proved from fmt's source: count such statements apart). THE CARD IS WHAT COUNTS. Prove the row's statement (the work); the ties are given (YtkdnplaoondlbaaDoorTie.lean); close each card by the builder's one call (the guide's Derived/Test/ToyasCard.lean, 'card_holds'). Laid BY PROGRAM, IN A SANDBOX (cutbox-door.mjs). By AI agents, Wed Nov 11 2026. No macro, syntax, notation, axiom, sorry.
-/
import Derived.Test.YtkdnplaoondlbaaDoorRows
import GoSem.ClaimSeven
namespace Go.Proofs.YtkdnplaoondlbaaDoor
namespace Rows

/-- THE TIED CARD OF 'countermandlaw06.IdentLies'. -/
def identLiesCard : Claim7 := { stood := { row := identLiesRow, standIns := [], harness := (true, "0670706244493faa6dfeeb0a1c52fa0ce6ff166fd17270ee5367b279f2398aa0"), looks := true }, kinds := [], alts := [], laidByText := true, laidKinds := [.data, .data, .data, .sentinel, .sentinel], laidTests := true, laidLooks := .later }
def IdentLiesCardSaid : Prop := Claim7.holds Tryd.pinned (.plain (OpenSpec.ofChange identLiesSpec)) identLiesCard

/-- THE TIED CARD OF 'countermandlaw06.IdentOrders'. -/
def identOrdersCard : Claim7 := { stood := { row := identOrdersRow, standIns := [], harness := (true, "0670706244493faa6dfeeb0a1c52fa0ce6ff166fd17270ee5367b279f2398aa0"), looks := true }, kinds := [], alts := [], laidByText := true, laidKinds := [.data, .data, .data, .sentinel, .sentinel], laidTests := true, laidLooks := .later }
def IdentOrdersCardSaid : Prop := Claim7.holds Tryd.pinned (.plain (OpenSpec.ofChange identOrdersSpec)) identOrdersCard

/-- THE TIED CARD OF 'countermandlaw06.IdentTexts'. -/
def identTextsCard : Claim7 := { stood := { row := identTextsRow, standIns := [], harness := (true, "0670706244493faa6dfeeb0a1c52fa0ce6ff166fd17270ee5367b279f2398aa0"), looks := true }, kinds := [], alts := [], laidByText := true, laidKinds := [.data, .data, .data, .sentinel, .sentinel], laidTests := true, laidLooks := .later }
def IdentTextsCardSaid : Prop := Claim7.holds Tryd.pinned (.plain (OpenSpec.ofChange identTextsSpec)) identTextsCard

/-- THE SECOND FORM's CARD OF 'countermandlaw06.IdentLies'. -/
def identLiesUptoCard : Claim7 := { stood := { row := identLiesUptoRow, standIns := [], harness := (true, "0670706244493faa6dfeeb0a1c52fa0ce6ff166fd17270ee5367b279f2398aa0"), looks := true }, kinds := [], alts := [], laidByText := true, laidKinds := [.data, .data, .data, .sentinel, .sentinel], laidTests := true, laidLooks := .later }
def IdentLiesUptoCardSaid : Prop := Claim7.holds Tryd.pinned (.plain (OpenSpec.upto identLiesSpec)) identLiesUptoCard

/-- THE SECOND FORM's CARD OF 'countermandlaw06.IdentOrders'. -/
def identOrdersUptoCard : Claim7 := { stood := { row := identOrdersUptoRow, standIns := [], harness := (true, "0670706244493faa6dfeeb0a1c52fa0ce6ff166fd17270ee5367b279f2398aa0"), looks := true }, kinds := [], alts := [], laidByText := true, laidKinds := [.data, .data, .data, .sentinel, .sentinel], laidTests := true, laidLooks := .later }
def IdentOrdersUptoCardSaid : Prop := Claim7.holds Tryd.pinned (.plain (OpenSpec.upto identOrdersSpec)) identOrdersUptoCard

/-- THE SECOND FORM's CARD OF 'countermandlaw06.IdentTexts'. -/
def identTextsUptoCard : Claim7 := { stood := { row := identTextsUptoRow, standIns := [], harness := (true, "0670706244493faa6dfeeb0a1c52fa0ce6ff166fd17270ee5367b279f2398aa0"), looks := true }, kinds := [], alts := [], laidByText := true, laidKinds := [.data, .data, .data, .sentinel, .sentinel], laidTests := true, laidLooks := .later }
def IdentTextsUptoCardSaid : Prop := Claim7.holds Tryd.pinned (.plain (OpenSpec.upto identTextsSpec)) identTextsUptoCard
end Rows
end Go.Proofs.YtkdnplaoondlbaaDoor
