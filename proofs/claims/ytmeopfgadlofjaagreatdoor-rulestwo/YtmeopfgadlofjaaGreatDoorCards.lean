/-
  DERIVED. GIVEN WITH THE SEED: THE CARDS: each row of YtmeopfgadlofjaaGreatDoorRows.lean that lists a variable, with what it lists TIED to the program's text (the seventh form; the later family's looks); each row that meets fmt, with fmt's text TOLD by the authors' own Lean function (tested against real Go, not proved from fmt's source: count such statements apart). THE CARD IS WHAT COUNTS. Prove the row's statement (the work); the ties are given (YtmeopfgadlofjaaGreatDoorTie.lean); close each card by the builder's one call (the guide's Derived/Test/ToyasCard.lean, 'card_holds'). Laid BY PROGRAM, IN A SANDBOX (cutbox-door.mjs). By AI agents, Wed Nov 11 2026. No macro, syntax, notation, axiom, sorry.
-/
import Derived.Test.YtmeopfgadlofjaaGreatDoorRows
import GoSem.ClaimSeven
namespace Go.Proofs.YtmeopfgadlofjaaGreatDoor
namespace Rows

/-- THE TIED CARD OF 'constablelaw11.RulesExact'. -/
def rulesExactCard : Claim7 := { stood := { row := rulesExactRow, standIns := [], harness := (true, "953ff0e3c2c2e3e0bd9bcc1014e1580e16387b2e156385e273d0c9c3ab5245e6"), looks := true }, kinds := [], alts := [], laidByText := true, laidKinds := [.data, .data, .data, .sentinel, .sentinel], laidTests := true, laidLooks := .later }
def RulesExactCardSaid : Prop := Claim7.holds Tryz.pinned (.plain (OpenSpec.ofChange rulesExactSpec)) rulesExactCard

/-- THE TIED CARD OF 'constablelaw11.RulesBack'. -/
def rulesBackCard : Claim7 := { stood := { row := rulesBackRow, standIns := [], harness := (true, "953ff0e3c2c2e3e0bd9bcc1014e1580e16387b2e156385e273d0c9c3ab5245e6"), looks := true }, kinds := [], alts := [], laidByText := true, laidKinds := [.data, .data, .data, .sentinel, .sentinel], laidTests := true, laidLooks := .later }
def RulesBackCardSaid : Prop := Claim7.holds Tryz.pinned (.plain (OpenSpec.ofChange rulesBackSpec)) rulesBackCard

/-- THE TIED CARD OF 'constablelaw11.RulesTwo'. -/
def rulesTwoCard : Claim7 := { stood := { row := rulesTwoRow, standIns := [], harness := (true, "953ff0e3c2c2e3e0bd9bcc1014e1580e16387b2e156385e273d0c9c3ab5245e6"), looks := true }, kinds := [], alts := [], laidByText := true, laidKinds := [.data, .data, .data, .sentinel, .sentinel], laidTests := true, laidLooks := .later }
def RulesTwoCardSaid : Prop := Claim7.holds Tryz.pinned (.plain (OpenSpec.ofChange rulesTwoSpec)) rulesTwoCard

/-- THE TIED CARD OF 'constablelaw11.RulesBent'. -/
def rulesBentCard : Claim7 := { stood := { row := rulesBentRow, standIns := [], harness := (true, "953ff0e3c2c2e3e0bd9bcc1014e1580e16387b2e156385e273d0c9c3ab5245e6"), looks := true }, kinds := [], alts := [], laidByText := true, laidKinds := [.data, .data, .data, .sentinel, .sentinel], laidTests := true, laidLooks := .later }
def RulesBentCardSaid : Prop := Claim7.holds Tryz.pinned (.plain (OpenSpec.ofChange rulesBentSpec)) rulesBentCard

/-- THE SECOND FORM's CARD OF 'constablelaw11.RulesExact'. -/
def rulesExactUptoCard : Claim7 := { stood := { row := rulesExactUptoRow, standIns := [], harness := (true, "953ff0e3c2c2e3e0bd9bcc1014e1580e16387b2e156385e273d0c9c3ab5245e6"), looks := true }, kinds := [], alts := [], laidByText := true, laidKinds := [.data, .data, .data, .sentinel, .sentinel], laidTests := true, laidLooks := .later }
def RulesExactUptoCardSaid : Prop := Claim7.holds Tryz.pinned (.plain (OpenSpec.upto rulesExactSpec)) rulesExactUptoCard

/-- THE SECOND FORM's CARD OF 'constablelaw11.RulesBack'. -/
def rulesBackUptoCard : Claim7 := { stood := { row := rulesBackUptoRow, standIns := [], harness := (true, "953ff0e3c2c2e3e0bd9bcc1014e1580e16387b2e156385e273d0c9c3ab5245e6"), looks := true }, kinds := [], alts := [], laidByText := true, laidKinds := [.data, .data, .data, .sentinel, .sentinel], laidTests := true, laidLooks := .later }
def RulesBackUptoCardSaid : Prop := Claim7.holds Tryz.pinned (.plain (OpenSpec.upto rulesBackSpec)) rulesBackUptoCard

/-- THE SECOND FORM's CARD OF 'constablelaw11.RulesTwo'. -/
def rulesTwoUptoCard : Claim7 := { stood := { row := rulesTwoUptoRow, standIns := [], harness := (true, "953ff0e3c2c2e3e0bd9bcc1014e1580e16387b2e156385e273d0c9c3ab5245e6"), looks := true }, kinds := [], alts := [], laidByText := true, laidKinds := [.data, .data, .data, .sentinel, .sentinel], laidTests := true, laidLooks := .later }
def RulesTwoUptoCardSaid : Prop := Claim7.holds Tryz.pinned (.plain (OpenSpec.upto rulesTwoSpec)) rulesTwoUptoCard

/-- THE SECOND FORM's CARD OF 'constablelaw11.RulesBent'. -/
def rulesBentUptoCard : Claim7 := { stood := { row := rulesBentUptoRow, standIns := [], harness := (true, "953ff0e3c2c2e3e0bd9bcc1014e1580e16387b2e156385e273d0c9c3ab5245e6"), looks := true }, kinds := [], alts := [], laidByText := true, laidKinds := [.data, .data, .data, .sentinel, .sentinel], laidTests := true, laidLooks := .later }
def RulesBentUptoCardSaid : Prop := Claim7.holds Tryz.pinned (.plain (OpenSpec.upto rulesBentSpec)) rulesBentUptoCard
end Rows
end Go.Proofs.YtmeopfgadlofjaaGreatDoor
