/-
  No cell of these rows narrows 'for every input' (looked for: loops, veiled, ifaces, maps, wideKeys, modest, calm, conditions, laid).
  DERIVED. THE GIVEN ROWS OF THIS SEAT. 5 by the template 'for every input the law returns true; each argument reads behind the call as it read before'; 0 by the template 'total and deterministic' (their statements: YtmnonjacomabbaaTotals.lean).
  GIVEN WITH THE SEED: the statements are not yours to turn. If you find one false, say at which input.
  Laid BY PROGRAM, IN A SANDBOX (cutbox-rows.mjs): the forced cells as the released guide's own fill.sh prints them over the translation 7d8fa25e52a0107a… (all of the seat's roots in one cut). By AI agents, Wed Nov 11 2026. No macro, syntax, notation, axiom, sorry.
-/
import Derived.Test.YtmnonjacomabbaaChecked
import GoSem.Claim
import GoSem.ClaimJoined
import GoSem.ClaimMapViews
import Derived.JoinedTies
import Derived.KernelRfl
namespace Go.Proofs.Ytmnonjacomabbaa
/- THE CELL 'sum', in the pinned program and in every row, IS THE sha256 OF THE DUMP (.gsa) THAT YtmnonjacomabbaaProg.lean LOADS. Nothing in Lean hashes anything: it is a label: what it is worth is what the hold of that sum in a sandbox is worth. -/
noncomputable def Try.pinned : Pinned := { name := "ytmnonjacomabbaa", sum := "7d8fa25e52a0107ab9366dc8459fca15483a50dd282d86c3c3c647a4ec63d6d8", checked := Try.checked }
namespace Rows
def none {H : Type} : Left H := { results := [], args := [] }

/-- 'constablelaw04.SetsExact': WHATEVER THE INPUT: true; the input reads as it did. -/
def setsExactSpec : ChangeSpec := { name := "setsExact", fn := fun _ => fun
  | [d1, d2, d3] => { results := [.lit (.bool true)], args := [d1, d2, d3] }
  | _ => none }
def setsExactRow : OpenClaim := { program := "ytmnonjacomabbaa", sum := "7d8fa25e52a0107ab9366dc8459fca15483a50dd282d86c3c3c647a4ec63d6d8", func := "constable/constablelaw04.SetsExact", spec := "setsExact", inPlace := ["internal/bytealg.abigen_runtime_cmpstring"], unfollowed := true, recurses := true, apart := false }
def SetsExactSaid : Prop := setsExactRow.holds Try.pinned (OpenSpec.ofChange setsExactSpec)

/-- ITS FALSE NEIGHBOUR: 'it returns false'. Refute it at one input. -/
def setsExactWrong : ChangeSpec := { name := "setsExact", fn := fun _ => fun
  | [d1, d2, d3] => { results := [.lit (.bool false)], args := [d1, d2, d3] }
  | _ => none }
def SetsExactWrongFalsely : Prop := setsExactRow.holds Try.pinned (OpenSpec.ofChange setsExactWrong)

/-- 'constablelaw04.SetsSame': WHATEVER THE INPUT: true; the input reads as it did. -/
def setsSameSpec : ChangeSpec := { name := "setsSame", fn := fun _ => fun
  | [d1, d2] => { results := [.lit (.bool true)], args := [d1, d2] }
  | _ => none }
def setsSameRow : OpenClaim := { program := "ytmnonjacomabbaa", sum := "7d8fa25e52a0107ab9366dc8459fca15483a50dd282d86c3c3c647a4ec63d6d8", func := "constable/constablelaw04.SetsSame", spec := "setsSame", inPlace := ["internal/bytealg.abigen_runtime_cmpstring"], unfollowed := true, recurses := true, apart := false }
def SetsSameSaid : Prop := setsSameRow.holds Try.pinned (OpenSpec.ofChange setsSameSpec)

/-- ITS FALSE NEIGHBOUR: 'it returns false'. Refute it at one input. -/
def setsSameWrong : ChangeSpec := { name := "setsSame", fn := fun _ => fun
  | [d1, d2] => { results := [.lit (.bool false)], args := [d1, d2] }
  | _ => none }
def SetsSameWrongFalsely : Prop := setsSameRow.holds Try.pinned (OpenSpec.ofChange setsSameWrong)

/-- 'constablelaw04.SetsDrop': WHATEVER THE INPUT: true; the input reads as it did. -/
def setsDropSpec : ChangeSpec := { name := "setsDrop", fn := fun _ => fun
  | [d1, d2, d3] => { results := [.lit (.bool true)], args := [d1, d2, d3] }
  | _ => none }
def setsDropRow : OpenClaim := { program := "ytmnonjacomabbaa", sum := "7d8fa25e52a0107ab9366dc8459fca15483a50dd282d86c3c3c647a4ec63d6d8", func := "constable/constablelaw04.SetsDrop", spec := "setsDrop", inPlace := ["internal/bytealg.abigen_runtime_cmpstring"], unfollowed := true, recurses := true, apart := false }
def SetsDropSaid : Prop := setsDropRow.holds Try.pinned (OpenSpec.ofChange setsDropSpec)

/-- ITS FALSE NEIGHBOUR: 'it returns false'. Refute it at one input. -/
def setsDropWrong : ChangeSpec := { name := "setsDrop", fn := fun _ => fun
  | [d1, d2, d3] => { results := [.lit (.bool false)], args := [d1, d2, d3] }
  | _ => none }
def SetsDropWrongFalsely : Prop := setsDropRow.holds Try.pinned (OpenSpec.ofChange setsDropWrong)

/-- 'constablelaw04.SetsBoth': WHATEVER THE INPUT: true; the input reads as it did. -/
def setsBothSpec : ChangeSpec := { name := "setsBoth", fn := fun _ => fun
  | [d1, d2, d3] => { results := [.lit (.bool true)], args := [d1, d2, d3] }
  | _ => none }
def setsBothRow : OpenClaim := { program := "ytmnonjacomabbaa", sum := "7d8fa25e52a0107ab9366dc8459fca15483a50dd282d86c3c3c647a4ec63d6d8", func := "constable/constablelaw04.SetsBoth", spec := "setsBoth", inPlace := ["internal/bytealg.abigen_runtime_cmpstring"], unfollowed := true, recurses := true, apart := false }
def SetsBothSaid : Prop := setsBothRow.holds Try.pinned (OpenSpec.ofChange setsBothSpec)

/-- ITS FALSE NEIGHBOUR: 'it returns false'. Refute it at one input. -/
def setsBothWrong : ChangeSpec := { name := "setsBoth", fn := fun _ => fun
  | [d1, d2, d3] => { results := [.lit (.bool false)], args := [d1, d2, d3] }
  | _ => none }
def SetsBothWrongFalsely : Prop := setsBothRow.holds Try.pinned (OpenSpec.ofChange setsBothWrong)

/-- 'constablelaw04.SetsRise': WHATEVER THE INPUT: true; the input reads as it did. -/
def setsRiseSpec : ChangeSpec := { name := "setsRise", fn := fun _ => fun
  | [d] => { results := [.lit (.bool true)], args := [d] }
  | _ => none }
def setsRiseRow : OpenClaim := { program := "ytmnonjacomabbaa", sum := "7d8fa25e52a0107ab9366dc8459fca15483a50dd282d86c3c3c647a4ec63d6d8", func := "constable/constablelaw04.SetsRise", spec := "setsRise", inPlace := ["internal/bytealg.abigen_runtime_cmpstring"], unfollowed := true, recurses := true, apart := false }
def SetsRiseSaid : Prop := setsRiseRow.holds Try.pinned (OpenSpec.ofChange setsRiseSpec)

/-- ITS FALSE NEIGHBOUR: 'it returns false'. Refute it at one input. -/
def setsRiseWrong : ChangeSpec := { name := "setsRise", fn := fun _ => fun
  | [d] => { results := [.lit (.bool false)], args := [d] }
  | _ => none }
def SetsRiseWrongFalsely : Prop := setsRiseRow.holds Try.pinned (OpenSpec.ofChange setsRiseWrong)

/- THE SECOND FORM. 'bulk': how many values and letters a reading holds, each counted each time it is reached (what is shared counts as often as it is met; a slice's spare places count too). A statement '..UptoSaid' is the law's where the arguments, and the package variables that the reading takes, are together of bulk at most 1048576: NARROWER than '..Said'. Prove '..Said' where nothing that the law and all that it calls make is longer than what came in: it says more and counts as full. Else prove '..UptoSaid'. A law counts once. -/
mutual
def uptoBulk {H : Type} : DataW H → Nat
  | .lit (.string bytes) => bytes.length + 1
  | .lit _ => 1
  | .nil => 1
  | .ptr d => uptoBulk d + 1
  | .slice elems spare => uptoBulkAll elems + uptoBulkAll spare + 1
  | .agg parts => uptoBulkAll parts + 1
  | .iface _ d => uptoBulk d + 1
  | .map entries => uptoBulkEntries entries + 1
  | .held _ => 1
def uptoBulkAll {H : Type} : List (DataW H) → Nat
  | [] => 0
  | d :: r => uptoBulk d + uptoBulkAll r
def uptoBulkEntries {H : Type} : List (Lit × DataW H) → Nat
  | [] => 0
  | x :: r => uptoBulkEntry x + uptoBulkEntries r
def uptoBulkEntry {H : Type} : Lit × DataW H → Nat
  | (.string bytes, d) => bytes.length + uptoBulk d + 1
  | (_, d) => uptoBulk d + 1
 end
def uptoSmall : (H : Type) → List (DataW H) → Bool := fun _ ds => decide (uptoBulkAll ds ≤ 1048576)
def OpenSpec.upto (s : _root_.Go.ChangeSpec) : _root_.Go.OpenSpec := { _root_.Go.OpenSpec.ofChange s with cond := some uptoSmall }

/-- 'constablelaw04.SetsExact', WHERE WHAT IT READS IS OF BULK AT MOST 1048576: true; the input reads as it did. -/
def setsExactUptoRow : OpenClaim := { program := "ytmnonjacomabbaa", sum := "7d8fa25e52a0107ab9366dc8459fca15483a50dd282d86c3c3c647a4ec63d6d8", func := "constable/constablelaw04.SetsExact", spec := "setsExact", inPlace := ["internal/bytealg.abigen_runtime_cmpstring"], unfollowed := true, recurses := true, apart := false, narrowed := true }
def SetsExactUptoSaid : Prop := setsExactUptoRow.holds Try.pinned (OpenSpec.upto setsExactSpec)

/-- 'constablelaw04.SetsSame', WHERE WHAT IT READS IS OF BULK AT MOST 1048576: true; the input reads as it did. -/
def setsSameUptoRow : OpenClaim := { program := "ytmnonjacomabbaa", sum := "7d8fa25e52a0107ab9366dc8459fca15483a50dd282d86c3c3c647a4ec63d6d8", func := "constable/constablelaw04.SetsSame", spec := "setsSame", inPlace := ["internal/bytealg.abigen_runtime_cmpstring"], unfollowed := true, recurses := true, apart := false, narrowed := true }
def SetsSameUptoSaid : Prop := setsSameUptoRow.holds Try.pinned (OpenSpec.upto setsSameSpec)

/-- 'constablelaw04.SetsDrop', WHERE WHAT IT READS IS OF BULK AT MOST 1048576: true; the input reads as it did. -/
def setsDropUptoRow : OpenClaim := { program := "ytmnonjacomabbaa", sum := "7d8fa25e52a0107ab9366dc8459fca15483a50dd282d86c3c3c647a4ec63d6d8", func := "constable/constablelaw04.SetsDrop", spec := "setsDrop", inPlace := ["internal/bytealg.abigen_runtime_cmpstring"], unfollowed := true, recurses := true, apart := false, narrowed := true }
def SetsDropUptoSaid : Prop := setsDropUptoRow.holds Try.pinned (OpenSpec.upto setsDropSpec)

/-- 'constablelaw04.SetsBoth', WHERE WHAT IT READS IS OF BULK AT MOST 1048576: true; the input reads as it did. -/
def setsBothUptoRow : OpenClaim := { program := "ytmnonjacomabbaa", sum := "7d8fa25e52a0107ab9366dc8459fca15483a50dd282d86c3c3c647a4ec63d6d8", func := "constable/constablelaw04.SetsBoth", spec := "setsBoth", inPlace := ["internal/bytealg.abigen_runtime_cmpstring"], unfollowed := true, recurses := true, apart := false, narrowed := true }
def SetsBothUptoSaid : Prop := setsBothUptoRow.holds Try.pinned (OpenSpec.upto setsBothSpec)

/-- 'constablelaw04.SetsRise', WHERE WHAT IT READS IS OF BULK AT MOST 1048576: true; the input reads as it did. -/
def setsRiseUptoRow : OpenClaim := { program := "ytmnonjacomabbaa", sum := "7d8fa25e52a0107ab9366dc8459fca15483a50dd282d86c3c3c647a4ec63d6d8", func := "constable/constablelaw04.SetsRise", spec := "setsRise", inPlace := ["internal/bytealg.abigen_runtime_cmpstring"], unfollowed := true, recurses := true, apart := false, narrowed := true }
def SetsRiseUptoSaid : Prop := setsRiseUptoRow.holds Try.pinned (OpenSpec.upto setsRiseSpec)

end Rows
end Go.Proofs.Ytmnonjacomabbaa
