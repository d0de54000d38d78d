/-
  DERIVED. GIVEN WITH THE SEED: THE CARDS: each row of YtdonokmnfniobaaDoorRows.lean that lists a variable, with what it lists TIED to the program's text (the seventh form; the later family's looks); each row that meets fmt, with fmt's text TOLD by the authors' own Lean function (tested against real Go, not proved from fmt's source: count such statements apart). THE CARD IS WHAT COUNTS. Prove the row's statement (the work); the ties are given (YtdonokmnfniobaaDoorTie.lean); close each card by the builder's one call (the guide's Derived/Test/ToyasCard.lean, 'card_holds'). Laid BY PROGRAM, IN A SANDBOX (cutbox-door.mjs). By AI agents, Wed Nov 11 2026. No macro, syntax, notation, axiom, sorry.
-/
import Derived.Test.YtdonokmnfniobaaDoorRows
import GoSem.ClaimSeven
namespace Go.Proofs.YtdonokmnfniobaaDoor
namespace Rows

/-- THE TIED CARD OF 'constablelaw10.AtomsReads'. -/
def atomsReadsCard : Claim7 := { stood := { row := atomsReadsRow, standIns := [], harness := (true, "f4a2961d57131eb367a65b65b8cc29ccede3a430dadde3a313d460122f14314b"), looks := true }, kinds := [], alts := [], laidByText := true, laidKinds := [.data, .data, .data, .sentinel, .sentinel], laidTests := true, laidLooks := .later }
def AtomsReadsCardSaid : Prop := Claim7.holds Tryd.pinned (.plain (OpenSpec.ofChange atomsReadsSpec)) atomsReadsCard

/-- THE TIED CARD OF 'constablelaw10.AtomsBad'. -/
def atomsBadCard : Claim7 := { stood := { row := atomsBadRow, standIns := [], harness := (true, "f4a2961d57131eb367a65b65b8cc29ccede3a430dadde3a313d460122f14314b"), looks := true }, kinds := [], alts := [], laidByText := true, laidKinds := [.data, .data, .data, .sentinel, .sentinel], laidTests := true, laidLooks := .later }
def AtomsBadCardSaid : Prop := Claim7.holds Tryd.pinned (.plain (OpenSpec.ofChange atomsBadSpec)) atomsBadCard

/-- THE TIED CARD OF 'constablelaw10.AtomsWords'. -/
def atomsWordsCard : Claim7 := { stood := { row := atomsWordsRow, standIns := [], harness := (true, "f4a2961d57131eb367a65b65b8cc29ccede3a430dadde3a313d460122f14314b"), looks := true }, kinds := [], alts := [], laidByText := true, laidKinds := [.data, .data, .data, .sentinel, .sentinel], laidTests := true, laidLooks := .later }
def AtomsWordsCardSaid : Prop := Claim7.holds Tryd.pinned (.plain (OpenSpec.ofChange atomsWordsSpec)) atomsWordsCard

/-- THE SECOND FORM's CARD OF 'constablelaw10.AtomsReads'. -/
def atomsReadsUptoCard : Claim7 := { stood := { row := atomsReadsUptoRow, standIns := [], harness := (true, "f4a2961d57131eb367a65b65b8cc29ccede3a430dadde3a313d460122f14314b"), looks := true }, kinds := [], alts := [], laidByText := true, laidKinds := [.data, .data, .data, .sentinel, .sentinel], laidTests := true, laidLooks := .later }
def AtomsReadsUptoCardSaid : Prop := Claim7.holds Tryd.pinned (.plain (OpenSpec.upto atomsReadsSpec)) atomsReadsUptoCard

/-- THE SECOND FORM's CARD OF 'constablelaw10.AtomsBad'. -/
def atomsBadUptoCard : Claim7 := { stood := { row := atomsBadUptoRow, standIns := [], harness := (true, "f4a2961d57131eb367a65b65b8cc29ccede3a430dadde3a313d460122f14314b"), looks := true }, kinds := [], alts := [], laidByText := true, laidKinds := [.data, .data, .data, .sentinel, .sentinel], laidTests := true, laidLooks := .later }
def AtomsBadUptoCardSaid : Prop := Claim7.holds Tryd.pinned (.plain (OpenSpec.upto atomsBadSpec)) atomsBadUptoCard

/-- THE SECOND FORM's CARD OF 'constablelaw10.AtomsWords'. -/
def atomsWordsUptoCard : Claim7 := { stood := { row := atomsWordsUptoRow, standIns := [], harness := (true, "f4a2961d57131eb367a65b65b8cc29ccede3a430dadde3a313d460122f14314b"), looks := true }, kinds := [], alts := [], laidByText := true, laidKinds := [.data, .data, .data, .sentinel, .sentinel], laidTests := true, laidLooks := .later }
def AtomsWordsUptoCardSaid : Prop := Claim7.holds Tryd.pinned (.plain (OpenSpec.upto atomsWordsSpec)) atomsWordsUptoCard
end Rows
end Go.Proofs.YtdonokmnfniobaaDoor
