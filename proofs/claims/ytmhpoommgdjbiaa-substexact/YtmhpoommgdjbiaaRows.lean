/-
  No cell of these rows narrows 'for every input' (looked for: loops, veiled, ifaces, maps, wideKeys, modest, calm, conditions, laid).
  DERIVED. THE GIVEN ROWS OF THIS SEAT. 4 by the template 'for every input the law returns true; each argument reads behind the call as it read before'; 0 by the template 'total and deterministic' (their statements: YtmhpoommgdjbiaaTotals.lean).
  GIVEN WITH THE SEED: the statements are not yours to turn. If you find one false, say at which input.
  Laid BY PROGRAM, IN A SANDBOX (cutbox-rows.mjs): the forced cells as the released guide's own fill.sh prints them over the translation 85af72767d2f51a0… (all of the seat's roots in one cut). By AI agents, Wed Nov 11 2026. No macro, syntax, notation, axiom, sorry.
-/
import Derived.Test.YtmhpoommgdjbiaaChecked
import GoSem.Claim
import GoSem.ClaimJoined
import GoSem.ClaimMapViews
import Derived.JoinedTies
import Derived.KernelRfl
namespace Go.Proofs.Ytmhpoommgdjbiaa
/- THE CELL 'sum', in the pinned program and in every row, IS THE sha256 OF THE DUMP (.gsa) THAT YtmhpoommgdjbiaaProg.lean LOADS. Nothing in Lean hashes anything: it is a label: what it is worth is what the hold of that sum in a sandbox is worth. -/
noncomputable def Try.pinned : Pinned := { name := "ytmhpoommgdjbiaa", sum := "85af72767d2f51a091c41e175121336f298e0025757519b0ee61da21daaff0b7", checked := Try.checked }
namespace Rows
def none {H : Type} : Left H := { results := [], args := [] }

/-- 'constablelaw05.SubstExact': WHATEVER THE INPUT: true; the input reads as it did. -/
def substExactSpec : ChangeSpec := { name := "substExact", fn := fun _ => fun
  | [d1, d2, d3, d4] => { results := [.lit (.bool true)], args := [d1, d2, d3, d4] }
  | _ => none }
def substExactRow : OpenClaim := { program := "ytmhpoommgdjbiaa", sum := "85af72767d2f51a091c41e175121336f298e0025757519b0ee61da21daaff0b7", func := "constable/constablelaw05.SubstExact", spec := "substExact", inPlace := ["internal/bytealg.abigen_runtime_cmpstring"], unfollowed := true, recurses := true, apart := false }
def SubstExactSaid : Prop := substExactRow.holds Try.pinned (OpenSpec.ofChange substExactSpec)

/-- ITS FALSE NEIGHBOUR: 'it returns false'. Refute it at one input. -/
def substExactWrong : ChangeSpec := { name := "substExact", fn := fun _ => fun
  | [d1, d2, d3, d4] => { results := [.lit (.bool false)], args := [d1, d2, d3, d4] }
  | _ => none }
def SubstExactWrongFalsely : Prop := substExactRow.holds Try.pinned (OpenSpec.ofChange substExactWrong)

/-- 'constablelaw05.SubstBack': WHATEVER THE INPUT: true; the input reads as it did. -/
def substBackSpec : ChangeSpec := { name := "substBack", fn := fun _ => fun
  | [d1, d2, d3, d4, d5] => { results := [.lit (.bool true)], args := [d1, d2, d3, d4, d5] }
  | _ => none }
def substBackRow : OpenClaim := { program := "ytmhpoommgdjbiaa", sum := "85af72767d2f51a091c41e175121336f298e0025757519b0ee61da21daaff0b7", func := "constable/constablelaw05.SubstBack", spec := "substBack", inPlace := ["internal/bytealg.abigen_runtime_cmpstring"], unfollowed := true, recurses := true, apart := false }
def SubstBackSaid : Prop := substBackRow.holds Try.pinned (OpenSpec.ofChange substBackSpec)

/-- ITS FALSE NEIGHBOUR: 'it returns false'. Refute it at one input. -/
def substBackWrong : ChangeSpec := { name := "substBack", fn := fun _ => fun
  | [d1, d2, d3, d4, d5] => { results := [.lit (.bool false)], args := [d1, d2, d3, d4, d5] }
  | _ => none }
def SubstBackWrongFalsely : Prop := substBackRow.holds Try.pinned (OpenSpec.ofChange substBackWrong)

/-- 'constablelaw05.SubstBoth': WHATEVER THE INPUT: true; the input reads as it did. -/
def substBothSpec : ChangeSpec := { name := "substBoth", fn := fun _ => fun
  | [d1, d2] => { results := [.lit (.bool true)], args := [d1, d2] }
  | _ => none }
def substBothRow : OpenClaim := { program := "ytmhpoommgdjbiaa", sum := "85af72767d2f51a091c41e175121336f298e0025757519b0ee61da21daaff0b7", func := "constable/constablelaw05.SubstBoth", spec := "substBoth", inPlace := ["internal/bytealg.abigen_runtime_cmpstring"], unfollowed := true, recurses := true, apart := false }
def SubstBothSaid : Prop := substBothRow.holds Try.pinned (OpenSpec.ofChange substBothSpec)

/-- ITS FALSE NEIGHBOUR: 'it returns false'. Refute it at one input. -/
def substBothWrong : ChangeSpec := { name := "substBoth", fn := fun _ => fun
  | [d1, d2] => { results := [.lit (.bool false)], args := [d1, d2] }
  | _ => none }
def SubstBothWrongFalsely : Prop := substBothRow.holds Try.pinned (OpenSpec.ofChange substBothWrong)

/-- 'constablelaw05.SubstMany': WHATEVER THE INPUT: true; the input reads as it did. -/
def substManySpec : ChangeSpec := { name := "substMany", fn := fun _ => fun
  | [d] => { results := [.lit (.bool true)], args := [d] }
  | _ => none }
def substManyRow : OpenClaim := { program := "ytmhpoommgdjbiaa", sum := "85af72767d2f51a091c41e175121336f298e0025757519b0ee61da21daaff0b7", func := "constable/constablelaw05.SubstMany", spec := "substMany", inPlace := ["internal/bytealg.abigen_runtime_cmpstring"], unfollowed := true, recurses := true, apart := false }
def SubstManySaid : Prop := substManyRow.holds Try.pinned (OpenSpec.ofChange substManySpec)

/-- ITS FALSE NEIGHBOUR: 'it returns false'. Refute it at one input. -/
def substManyWrong : ChangeSpec := { name := "substMany", fn := fun _ => fun
  | [d] => { results := [.lit (.bool false)], args := [d] }
  | _ => none }
def SubstManyWrongFalsely : Prop := substManyRow.holds Try.pinned (OpenSpec.ofChange substManyWrong)

/- THE SECOND FORM. 'bulk': how many values and letters a reading holds, each counted each time it is reached (what is shared counts as often as it is met; a slice's spare places count too). A statement '..UptoSaid' is the law's where the arguments, and the package variables that the reading takes, are together of bulk at most 1048576: NARROWER than '..Said'. Prove '..Said' where nothing that the law and all that it calls make is longer than what came in: it says more and counts as full. Else prove '..UptoSaid'. A law counts once. -/
mutual
def uptoBulk {H : Type} : DataW H → Nat
  | .lit (.string bytes) => bytes.length + 1
  | .lit _ => 1
  | .nil => 1
  | .ptr d => uptoBulk d + 1
  | .slice elems spare => uptoBulkAll elems + uptoBulkAll spare + 1
  | .agg parts => uptoBulkAll parts + 1
  | .iface _ d => uptoBulk d + 1
  | .map entries => uptoBulkEntries entries + 1
  | .held _ => 1
def uptoBulkAll {H : Type} : List (DataW H) → Nat
  | [] => 0
  | d :: r => uptoBulk d + uptoBulkAll r
def uptoBulkEntries {H : Type} : List (Lit × DataW H) → Nat
  | [] => 0
  | x :: r => uptoBulkEntry x + uptoBulkEntries r
def uptoBulkEntry {H : Type} : Lit × DataW H → Nat
  | (.string bytes, d) => bytes.length + uptoBulk d + 1
  | (_, d) => uptoBulk d + 1
 end
def uptoSmall : (H : Type) → List (DataW H) → Bool := fun _ ds => decide (uptoBulkAll ds ≤ 1048576)
def OpenSpec.upto (s : _root_.Go.ChangeSpec) : _root_.Go.OpenSpec := { _root_.Go.OpenSpec.ofChange s with cond := some uptoSmall }

/-- 'constablelaw05.SubstExact', WHERE WHAT IT READS IS OF BULK AT MOST 1048576: true; the input reads as it did. -/
def substExactUptoRow : OpenClaim := { program := "ytmhpoommgdjbiaa", sum := "85af72767d2f51a091c41e175121336f298e0025757519b0ee61da21daaff0b7", func := "constable/constablelaw05.SubstExact", spec := "substExact", inPlace := ["internal/bytealg.abigen_runtime_cmpstring"], unfollowed := true, recurses := true, apart := false, narrowed := true }
def SubstExactUptoSaid : Prop := substExactUptoRow.holds Try.pinned (OpenSpec.upto substExactSpec)

/-- 'constablelaw05.SubstBack', WHERE WHAT IT READS IS OF BULK AT MOST 1048576: true; the input reads as it did. -/
def substBackUptoRow : OpenClaim := { program := "ytmhpoommgdjbiaa", sum := "85af72767d2f51a091c41e175121336f298e0025757519b0ee61da21daaff0b7", func := "constable/constablelaw05.SubstBack", spec := "substBack", inPlace := ["internal/bytealg.abigen_runtime_cmpstring"], unfollowed := true, recurses := true, apart := false, narrowed := true }
def SubstBackUptoSaid : Prop := substBackUptoRow.holds Try.pinned (OpenSpec.upto substBackSpec)

/-- 'constablelaw05.SubstBoth', WHERE WHAT IT READS IS OF BULK AT MOST 1048576: true; the input reads as it did. -/
def substBothUptoRow : OpenClaim := { program := "ytmhpoommgdjbiaa", sum := "85af72767d2f51a091c41e175121336f298e0025757519b0ee61da21daaff0b7", func := "constable/constablelaw05.SubstBoth", spec := "substBoth", inPlace := ["internal/bytealg.abigen_runtime_cmpstring"], unfollowed := true, recurses := true, apart := false, narrowed := true }
def SubstBothUptoSaid : Prop := substBothUptoRow.holds Try.pinned (OpenSpec.upto substBothSpec)

/-- 'constablelaw05.SubstMany', WHERE WHAT IT READS IS OF BULK AT MOST 1048576: true; the input reads as it did. -/
def substManyUptoRow : OpenClaim := { program := "ytmhpoommgdjbiaa", sum := "85af72767d2f51a091c41e175121336f298e0025757519b0ee61da21daaff0b7", func := "constable/constablelaw05.SubstMany", spec := "substMany", inPlace := ["internal/bytealg.abigen_runtime_cmpstring"], unfollowed := true, recurses := true, apart := false, narrowed := true }
def SubstManyUptoSaid : Prop := substManyUptoRow.holds Try.pinned (OpenSpec.upto substManySpec)

end Rows
end Go.Proofs.Ytmhpoommgdjbiaa
