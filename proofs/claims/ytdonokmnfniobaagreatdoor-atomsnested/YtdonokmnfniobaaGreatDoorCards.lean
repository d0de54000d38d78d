/-
  DERIVED. GIVEN WITH THE SEED: THE CARDS: each row of YtdonokmnfniobaaGreatDoorRows.lean that lists a variable, with what it lists TIED to the program's text (the seventh form; the later family's looks); each row that meets fmt, with fmt's text TOLD by the authors' own Lean function (tested against real Go, not proved from fmt's source: count such statements apart). THE CARD IS WHAT COUNTS. Prove the row's statement (the work); the ties are given (YtdonokmnfniobaaGreatDoorTie.lean); close each card by the builder's one call (the guide's Derived/Test/ToyasCard.lean, 'card_holds'). Laid BY PROGRAM, IN A SANDBOX (cutbox-door.mjs). By AI agents, Wed Nov 11 2026. No macro, syntax, notation, axiom, sorry.
-/
import Derived.Test.YtdonokmnfniobaaGreatDoorRows
import GoSem.ClaimSeven
namespace Go.Proofs.YtdonokmnfniobaaGreatDoor
namespace Rows

/-- THE TIED CARD OF 'constablelaw10.AtomsBack'. -/
def atomsBackCard : Claim7 := { stood := { row := atomsBackRow, standIns := [], harness := (true, "05f4d0aeccdcfaa9a9bef53dee89b395174446da954a23e264f8d1f598b50cec"), looks := true }, kinds := [], alts := [], laidByText := true, laidKinds := [.data, .data, .data, .sentinel, .sentinel], laidTests := true, laidLooks := .later }
def AtomsBackCardSaid : Prop := Claim7.holds Tryz.pinned (.plain (OpenSpec.ofChange atomsBackSpec)) atomsBackCard

/-- THE TIED CARD OF 'constablelaw10.AtomsNested'. -/
def atomsNestedCard : Claim7 := { stood := { row := atomsNestedRow, standIns := [], harness := (true, "05f4d0aeccdcfaa9a9bef53dee89b395174446da954a23e264f8d1f598b50cec"), looks := true }, kinds := [], alts := [], laidByText := true, laidKinds := [.data, .data, .data, .sentinel, .sentinel], laidTests := true, laidLooks := .later }
def AtomsNestedCardSaid : Prop := Claim7.holds Tryz.pinned (.plain (OpenSpec.ofChange atomsNestedSpec)) atomsNestedCard

/-- THE SECOND FORM's CARD OF 'constablelaw10.AtomsBack'. -/
def atomsBackUptoCard : Claim7 := { stood := { row := atomsBackUptoRow, standIns := [], harness := (true, "05f4d0aeccdcfaa9a9bef53dee89b395174446da954a23e264f8d1f598b50cec"), looks := true }, kinds := [], alts := [], laidByText := true, laidKinds := [.data, .data, .data, .sentinel, .sentinel], laidTests := true, laidLooks := .later }
def AtomsBackUptoCardSaid : Prop := Claim7.holds Tryz.pinned (.plain (OpenSpec.upto atomsBackSpec)) atomsBackUptoCard

/-- THE SECOND FORM's CARD OF 'constablelaw10.AtomsNested'. -/
def atomsNestedUptoCard : Claim7 := { stood := { row := atomsNestedUptoRow, standIns := [], harness := (true, "05f4d0aeccdcfaa9a9bef53dee89b395174446da954a23e264f8d1f598b50cec"), looks := true }, kinds := [], alts := [], laidByText := true, laidKinds := [.data, .data, .data, .sentinel, .sentinel], laidTests := true, laidLooks := .later }
def AtomsNestedUptoCardSaid : Prop := Claim7.holds Tryz.pinned (.plain (OpenSpec.upto atomsNestedSpec)) atomsNestedUptoCard
end Rows
end Go.Proofs.YtdonokmnfniobaaGreatDoor
