/-
  DERIVED. GIVEN WITH THE SEED: THE CARDS: each row of YtbdfdpioegjfhaaDoorRows.lean that lists a variable, with what it lists TIED to the program's text (the seventh form; the later family's looks); each row that meets fmt, with fmt's text TOLD by the authors' own Lean function (tested against real Go, not proved from fmt's source: count such statements apart). THE CARD IS WHAT COUNTS. Prove the row's statement (the work); the ties are given (YtbdfdpioegjfhaaDoorTie.lean); close each card by the builder's one call (the guide's Derived/Test/ToyasCard.lean, 'card_holds'). Laid BY PROGRAM, IN A SANDBOX (cutbox-door.mjs). By AI agents, Wed Nov 11 2026. No macro, syntax, notation, axiom, sorry.
-/
import Derived.Test.YtbdfdpioegjfhaaDoorRows
import GoSem.ClaimSeven
namespace Go.Proofs.YtbdfdpioegjfhaaDoor
namespace Rows

/-- THE TIED CARD OF 'constablelaw03.FactExact'. -/
def factExactCard : Claim7 := { stood := { row := factExactRow, standIns := [], harness := (true, "bb4266dd3f775ed2e2cfbd92da1d64b2fac34e50c59d8e199f9aac79ac167a16"), looks := false }, kinds := [], alts := [], laidByText := true, laidKinds := [.data, .data, .data], laidTests := true, laidLooks := .later }
def FactExactCardSaid : Prop := Claim7.holds Tryd.pinned (.plain (OpenSpec.ofChange factExactSpec)) factExactCard

/-- THE TIED CARD OF 'constablelaw03.FactOrder'. -/
def factOrderCard : Claim7 := { stood := { row := factOrderRow, standIns := [], harness := (true, "bb4266dd3f775ed2e2cfbd92da1d64b2fac34e50c59d8e199f9aac79ac167a16"), looks := false }, kinds := [], alts := [], laidByText := true, laidKinds := [.data, .data, .data], laidTests := true, laidLooks := .later }
def FactOrderCardSaid : Prop := Claim7.holds Tryd.pinned (.plain (OpenSpec.ofChange factOrderSpec)) factOrderCard

/-- THE TIED CARD OF 'constablelaw03.FactNames'. -/
def factNamesCard : Claim7 := { stood := { row := factNamesRow, standIns := [], harness := (true, "bb4266dd3f775ed2e2cfbd92da1d64b2fac34e50c59d8e199f9aac79ac167a16"), looks := false }, kinds := [], alts := [], laidByText := true, laidKinds := [.data, .data, .data], laidTests := true, laidLooks := .later }
def FactNamesCardSaid : Prop := Claim7.holds Tryd.pinned (.plain (OpenSpec.ofChange factNamesSpec)) factNamesCard

/-- THE SECOND FORM's CARD OF 'constablelaw03.FactExact'. -/
def factExactUptoCard : Claim7 := { stood := { row := factExactUptoRow, standIns := [], harness := (true, "bb4266dd3f775ed2e2cfbd92da1d64b2fac34e50c59d8e199f9aac79ac167a16"), looks := false }, kinds := [], alts := [], laidByText := true, laidKinds := [.data, .data, .data], laidTests := true, laidLooks := .later }
def FactExactUptoCardSaid : Prop := Claim7.holds Tryd.pinned (.plain (OpenSpec.upto factExactSpec)) factExactUptoCard

/-- THE SECOND FORM's CARD OF 'constablelaw03.FactOrder'. -/
def factOrderUptoCard : Claim7 := { stood := { row := factOrderUptoRow, standIns := [], harness := (true, "bb4266dd3f775ed2e2cfbd92da1d64b2fac34e50c59d8e199f9aac79ac167a16"), looks := false }, kinds := [], alts := [], laidByText := true, laidKinds := [.data, .data, .data], laidTests := true, laidLooks := .later }
def FactOrderUptoCardSaid : Prop := Claim7.holds Tryd.pinned (.plain (OpenSpec.upto factOrderSpec)) factOrderUptoCard

/-- THE SECOND FORM's CARD OF 'constablelaw03.FactNames'. -/
def factNamesUptoCard : Claim7 := { stood := { row := factNamesUptoRow, standIns := [], harness := (true, "bb4266dd3f775ed2e2cfbd92da1d64b2fac34e50c59d8e199f9aac79ac167a16"), looks := false }, kinds := [], alts := [], laidByText := true, laidKinds := [.data, .data, .data], laidTests := true, laidLooks := .later }
def FactNamesUptoCardSaid : Prop := Claim7.holds Tryd.pinned (.plain (OpenSpec.upto factNamesSpec)) factNamesUptoCard
end Rows
end Go.Proofs.YtbdfdpioegjfhaaDoor
