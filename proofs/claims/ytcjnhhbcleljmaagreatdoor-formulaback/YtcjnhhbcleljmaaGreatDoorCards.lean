/-
  DERIVED. GIVEN WITH THE SEED: THE CARDS: each row of YtcjnhhbcleljmaaGreatDoorRows.lean that lists a variable, with what it lists TIED to the program's text (the seventh form; the later family's looks); each row that meets fmt, with fmt's text TOLD by the authors' own Lean function (tested against real Go, not proved from fmt's source: count such statements apart). THE CARD IS WHAT COUNTS. Prove the row's statement (the work); the ties are given (YtcjnhhbcleljmaaGreatDoorTie.lean); close each card by the builder's one call (the guide's Derived/Test/ToyasCard.lean, 'card_holds'). Laid BY PROGRAM, IN A SANDBOX (cutbox-door.mjs). By AI agents, Wed Nov 11 2026. No macro, syntax, notation, axiom, sorry.
-/
import Derived.Test.YtcjnhhbcleljmaaGreatDoorRows
import GoSem.ClaimSeven
namespace Go.Proofs.YtcjnhhbcleljmaaGreatDoor
namespace Rows

/-- THE TIED CARD OF 'constablelaw11.RulesExact'. -/
def rulesExactCard : Claim7 := { stood := { row := rulesExactRow, standIns := [], harness := (true, "3990d2457ea0a1cee08be8a1ac289e466526d36ed93322760dc577832867f5a4"), looks := true }, kinds := [], alts := [], laidByText := true, laidKinds := [.data, .data, .data, .sentinel, .sentinel], laidTests := true, laidLooks := .later }
def RulesExactCardSaid : Prop := Claim7.holds Tryz.pinned (.plain (OpenSpec.ofChange rulesExactSpec)) rulesExactCard

/-- THE TIED CARD OF 'constablelaw12.FormulaExact'. -/
def formulaExactCard : Claim7 := { stood := { row := formulaExactRow, standIns := [], harness := (true, "3990d2457ea0a1cee08be8a1ac289e466526d36ed93322760dc577832867f5a4"), looks := true }, kinds := [], alts := [], laidByText := true, laidKinds := [.data, .data, .data, .sentinel, .sentinel, .data], laidTests := true, laidLooks := .later }
def FormulaExactCardSaid : Prop := Claim7.holds Tryz.pinned (.plain (OpenSpec.ofChange formulaExactSpec)) formulaExactCard

/-- THE TIED CARD OF 'constablelaw12.FormulaBack'. -/
def formulaBackCard : Claim7 := { stood := { row := formulaBackRow, standIns := [], harness := (true, "3990d2457ea0a1cee08be8a1ac289e466526d36ed93322760dc577832867f5a4"), looks := true }, kinds := [], alts := [], laidByText := true, laidKinds := [.data, .data, .data, .sentinel, .sentinel, .data], laidTests := true, laidLooks := .later }
def FormulaBackCardSaid : Prop := Claim7.holds Tryz.pinned (.plain (OpenSpec.ofChange formulaBackSpec)) formulaBackCard

/-- THE TIED CARD OF 'constablelaw12.FormulaParts'. -/
def formulaPartsCard : Claim7 := { stood := { row := formulaPartsRow, standIns := [], harness := (true, "3990d2457ea0a1cee08be8a1ac289e466526d36ed93322760dc577832867f5a4"), looks := true }, kinds := [], alts := [], laidByText := true, laidKinds := [.data, .data, .data, .sentinel, .sentinel, .data], laidTests := true, laidLooks := .later }
def FormulaPartsCardSaid : Prop := Claim7.holds Tryz.pinned (.plain (OpenSpec.ofChange formulaPartsSpec)) formulaPartsCard

/-- THE TIED CARD OF 'constablelaw12.FormulaBent'. -/
def formulaBentCard : Claim7 := { stood := { row := formulaBentRow, standIns := [], harness := (true, "3990d2457ea0a1cee08be8a1ac289e466526d36ed93322760dc577832867f5a4"), looks := true }, kinds := [], alts := [], laidByText := true, laidKinds := [.data, .data, .data, .sentinel, .sentinel, .data], laidTests := true, laidLooks := .later }
def FormulaBentCardSaid : Prop := Claim7.holds Tryz.pinned (.plain (OpenSpec.ofChange formulaBentSpec)) formulaBentCard

/-- THE SECOND FORM's CARD OF 'constablelaw11.RulesExact'. -/
def rulesExactUptoCard : Claim7 := { stood := { row := rulesExactUptoRow, standIns := [], harness := (true, "3990d2457ea0a1cee08be8a1ac289e466526d36ed93322760dc577832867f5a4"), looks := true }, kinds := [], alts := [], laidByText := true, laidKinds := [.data, .data, .data, .sentinel, .sentinel], laidTests := true, laidLooks := .later }
def RulesExactUptoCardSaid : Prop := Claim7.holds Tryz.pinned (.plain (OpenSpec.upto rulesExactSpec)) rulesExactUptoCard

/-- THE SECOND FORM's CARD OF 'constablelaw12.FormulaExact'. -/
def formulaExactUptoCard : Claim7 := { stood := { row := formulaExactUptoRow, standIns := [], harness := (true, "3990d2457ea0a1cee08be8a1ac289e466526d36ed93322760dc577832867f5a4"), looks := true }, kinds := [], alts := [], laidByText := true, laidKinds := [.data, .data, .data, .sentinel, .sentinel, .data], laidTests := true, laidLooks := .later }
def FormulaExactUptoCardSaid : Prop := Claim7.holds Tryz.pinned (.plain (OpenSpec.upto formulaExactSpec)) formulaExactUptoCard

/-- THE SECOND FORM's CARD OF 'constablelaw12.FormulaBack'. -/
def formulaBackUptoCard : Claim7 := { stood := { row := formulaBackUptoRow, standIns := [], harness := (true, "3990d2457ea0a1cee08be8a1ac289e466526d36ed93322760dc577832867f5a4"), looks := true }, kinds := [], alts := [], laidByText := true, laidKinds := [.data, .data, .data, .sentinel, .sentinel, .data], laidTests := true, laidLooks := .later }
def FormulaBackUptoCardSaid : Prop := Claim7.holds Tryz.pinned (.plain (OpenSpec.upto formulaBackSpec)) formulaBackUptoCard

/-- THE SECOND FORM's CARD OF 'constablelaw12.FormulaParts'. -/
def formulaPartsUptoCard : Claim7 := { stood := { row := formulaPartsUptoRow, standIns := [], harness := (true, "3990d2457ea0a1cee08be8a1ac289e466526d36ed93322760dc577832867f5a4"), looks := true }, kinds := [], alts := [], laidByText := true, laidKinds := [.data, .data, .data, .sentinel, .sentinel, .data], laidTests := true, laidLooks := .later }
def FormulaPartsUptoCardSaid : Prop := Claim7.holds Tryz.pinned (.plain (OpenSpec.upto formulaPartsSpec)) formulaPartsUptoCard

/-- THE SECOND FORM's CARD OF 'constablelaw12.FormulaBent'. -/
def formulaBentUptoCard : Claim7 := { stood := { row := formulaBentUptoRow, standIns := [], harness := (true, "3990d2457ea0a1cee08be8a1ac289e466526d36ed93322760dc577832867f5a4"), looks := true }, kinds := [], alts := [], laidByText := true, laidKinds := [.data, .data, .data, .sentinel, .sentinel, .data], laidTests := true, laidLooks := .later }
def FormulaBentUptoCardSaid : Prop := Claim7.holds Tryz.pinned (.plain (OpenSpec.upto formulaBentSpec)) formulaBentUptoCard
end Rows
end Go.Proofs.YtcjnhhbcleljmaaGreatDoor
