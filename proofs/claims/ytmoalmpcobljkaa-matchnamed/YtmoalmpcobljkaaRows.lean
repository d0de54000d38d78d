/-
  No cell of these rows narrows 'for every input' (looked for: loops, veiled, ifaces, maps, wideKeys, modest, calm, conditions, laid).
  DERIVED. THE GIVEN ROWS OF THIS SEAT. 3 by the template 'for every input the law returns true; each argument reads behind the call as it read before'; 0 by the template 'total and deterministic' (their statements: YtmoalmpcobljkaaTotals.lean).
  GIVEN WITH THE SEED: the statements are not yours to turn. If you find one false, say at which input.
  Laid BY PROGRAM, IN A SANDBOX (cutbox-rows.mjs): the forced cells as the released guide's own fill.sh prints them over the translation 1f853c4e32bb7a27… (all of the seat's roots in one cut). By AI agents, Wed Nov 11 2026. No macro, syntax, notation, axiom, sorry.
-/
import Derived.Test.YtmoalmpcobljkaaChecked
import GoSem.Claim
import GoSem.ClaimJoined
import GoSem.ClaimMapViews
import Derived.JoinedTies
import Derived.KernelRfl
namespace Go.Proofs.Ytmoalmpcobljkaa
/- THE CELL 'sum', in the pinned program and in every row, IS THE sha256 OF THE DUMP (.gsa) THAT YtmoalmpcobljkaaProg.lean LOADS. Nothing in Lean hashes anything: it is a label: what it is worth is what the hold of that sum in a sandbox is worth. -/
noncomputable def Try.pinned : Pinned := { name := "ytmoalmpcobljkaa", sum := "1f853c4e32bb7a279d24bb92ee84258947c3bcc9394187c3f84a3e87dcefd0c5", checked := Try.checked }
namespace Rows
def none {H : Type} : Left H := { results := [], args := [] }

/-- 'constablelaw06.MatchGround': WHATEVER THE INPUT: true; the input reads as it did. -/
def matchGroundSpec : ChangeSpec := { name := "matchGround", fn := fun _ => fun
  | [d1, d2, d3] => { results := [.lit (.bool true)], args := [d1, d2, d3] }
  | _ => none }
def matchGroundRow : OpenClaim := { program := "ytmoalmpcobljkaa", sum := "1f853c4e32bb7a279d24bb92ee84258947c3bcc9394187c3f84a3e87dcefd0c5", func := "constable/constablelaw06.MatchGround", spec := "matchGround", inPlace := ["internal/bytealg.abigen_runtime_cmpstring"], unfollowed := true, recurses := true, apart := false }
def MatchGroundSaid : Prop := matchGroundRow.holds Try.pinned (OpenSpec.ofChange matchGroundSpec)

/-- ITS FALSE NEIGHBOUR: 'it returns false'. Refute it at one input. -/
def matchGroundWrong : ChangeSpec := { name := "matchGround", fn := fun _ => fun
  | [d1, d2, d3] => { results := [.lit (.bool false)], args := [d1, d2, d3] }
  | _ => none }
def MatchGroundWrongFalsely : Prop := matchGroundRow.holds Try.pinned (OpenSpec.ofChange matchGroundWrong)

/-- 'constablelaw06.MatchFree': WHATEVER THE INPUT: true; the input reads as it did. -/
def matchFreeSpec : ChangeSpec := { name := "matchFree", fn := fun _ => fun
  | [d1, d2] => { results := [.lit (.bool true)], args := [d1, d2] }
  | _ => none }
def matchFreeRow : OpenClaim := { program := "ytmoalmpcobljkaa", sum := "1f853c4e32bb7a279d24bb92ee84258947c3bcc9394187c3f84a3e87dcefd0c5", func := "constable/constablelaw06.MatchFree", spec := "matchFree", inPlace := ["internal/bytealg.abigen_runtime_cmpstring"], unfollowed := true, recurses := true, apart := false }
def MatchFreeSaid : Prop := matchFreeRow.holds Try.pinned (OpenSpec.ofChange matchFreeSpec)

/-- ITS FALSE NEIGHBOUR: 'it returns false'. Refute it at one input. -/
def matchFreeWrong : ChangeSpec := { name := "matchFree", fn := fun _ => fun
  | [d1, d2] => { results := [.lit (.bool false)], args := [d1, d2] }
  | _ => none }
def MatchFreeWrongFalsely : Prop := matchFreeRow.holds Try.pinned (OpenSpec.ofChange matchFreeWrong)

/-- 'constablelaw06.MatchNamed': WHATEVER THE INPUT: true; the input reads as it did. -/
def matchNamedSpec : ChangeSpec := { name := "matchNamed", fn := fun _ => fun
  | [d1, d2] => { results := [.lit (.bool true)], args := [d1, d2] }
  | _ => none }
def matchNamedRow : OpenClaim := { program := "ytmoalmpcobljkaa", sum := "1f853c4e32bb7a279d24bb92ee84258947c3bcc9394187c3f84a3e87dcefd0c5", func := "constable/constablelaw06.MatchNamed", spec := "matchNamed", inPlace := ["internal/bytealg.abigen_runtime_cmpstring"], unfollowed := true, recurses := true, apart := false }
def MatchNamedSaid : Prop := matchNamedRow.holds Try.pinned (OpenSpec.ofChange matchNamedSpec)

/-- ITS FALSE NEIGHBOUR: 'it returns false'. Refute it at one input. -/
def matchNamedWrong : ChangeSpec := { name := "matchNamed", fn := fun _ => fun
  | [d1, d2] => { results := [.lit (.bool false)], args := [d1, d2] }
  | _ => none }
def MatchNamedWrongFalsely : Prop := matchNamedRow.holds Try.pinned (OpenSpec.ofChange matchNamedWrong)

/- THE SECOND FORM. 'bulk': how many values and letters a reading holds, each counted each time it is reached (what is shared counts as often as it is met; a slice's spare places count too). A statement '..UptoSaid' is the law's where the arguments, and the package variables that the reading takes, are together of bulk at most 1048576: NARROWER than '..Said'. Prove '..Said' where nothing that the law and all that it calls make is longer than what came in: it says more and counts as full. Else prove '..UptoSaid'. A law counts once. -/
mutual
def uptoBulk {H : Type} : DataW H → Nat
  | .lit (.string bytes) => bytes.length + 1
  | .lit _ => 1
  | .nil => 1
  | .ptr d => uptoBulk d + 1
  | .slice elems spare => uptoBulkAll elems + uptoBulkAll spare + 1
  | .agg parts => uptoBulkAll parts + 1
  | .iface _ d => uptoBulk d + 1
  | .map entries => uptoBulkEntries entries + 1
  | .held _ => 1
def uptoBulkAll {H : Type} : List (DataW H) → Nat
  | [] => 0
  | d :: r => uptoBulk d + uptoBulkAll r
def uptoBulkEntries {H : Type} : List (Lit × DataW H) → Nat
  | [] => 0
  | x :: r => uptoBulkEntry x + uptoBulkEntries r
def uptoBulkEntry {H : Type} : Lit × DataW H → Nat
  | (.string bytes, d) => bytes.length + uptoBulk d + 1
  | (_, d) => uptoBulk d + 1
 end
def uptoSmall : (H : Type) → List (DataW H) → Bool := fun _ ds => decide (uptoBulkAll ds ≤ 1048576)
def OpenSpec.upto (s : _root_.Go.ChangeSpec) : _root_.Go.OpenSpec := { _root_.Go.OpenSpec.ofChange s with cond := some uptoSmall }

/-- 'constablelaw06.MatchGround', WHERE WHAT IT READS IS OF BULK AT MOST 1048576: true; the input reads as it did. -/
def matchGroundUptoRow : OpenClaim := { program := "ytmoalmpcobljkaa", sum := "1f853c4e32bb7a279d24bb92ee84258947c3bcc9394187c3f84a3e87dcefd0c5", func := "constable/constablelaw06.MatchGround", spec := "matchGround", inPlace := ["internal/bytealg.abigen_runtime_cmpstring"], unfollowed := true, recurses := true, apart := false, narrowed := true }
def MatchGroundUptoSaid : Prop := matchGroundUptoRow.holds Try.pinned (OpenSpec.upto matchGroundSpec)

/-- 'constablelaw06.MatchFree', WHERE WHAT IT READS IS OF BULK AT MOST 1048576: true; the input reads as it did. -/
def matchFreeUptoRow : OpenClaim := { program := "ytmoalmpcobljkaa", sum := "1f853c4e32bb7a279d24bb92ee84258947c3bcc9394187c3f84a3e87dcefd0c5", func := "constable/constablelaw06.MatchFree", spec := "matchFree", inPlace := ["internal/bytealg.abigen_runtime_cmpstring"], unfollowed := true, recurses := true, apart := false, narrowed := true }
def MatchFreeUptoSaid : Prop := matchFreeUptoRow.holds Try.pinned (OpenSpec.upto matchFreeSpec)

/-- 'constablelaw06.MatchNamed', WHERE WHAT IT READS IS OF BULK AT MOST 1048576: true; the input reads as it did. -/
def matchNamedUptoRow : OpenClaim := { program := "ytmoalmpcobljkaa", sum := "1f853c4e32bb7a279d24bb92ee84258947c3bcc9394187c3f84a3e87dcefd0c5", func := "constable/constablelaw06.MatchNamed", spec := "matchNamed", inPlace := ["internal/bytealg.abigen_runtime_cmpstring"], unfollowed := true, recurses := true, apart := false, narrowed := true }
def MatchNamedUptoSaid : Prop := matchNamedUptoRow.holds Try.pinned (OpenSpec.upto matchNamedSpec)

end Rows
end Go.Proofs.Ytmoalmpcobljkaa
