/-
  No cell of these rows narrows 'for every input' (looked for: loops, veiled, ifaces, maps, wideKeys, modest, calm, conditions, laid).
  DERIVED. THE GIVEN ROWS OF THIS SEAT. 3 by the template 'for every input the law returns true; each argument reads behind the call as it read before'; 0 by the template 'total and deterministic' (their statements: YteckkbjpeckjmaaTotals.lean).
  GIVEN WITH THE SEED: the statements are not yours to turn. If you find one false, say at which input.
  Laid BY PROGRAM, IN A SANDBOX (cutbox-rows.mjs): the forced cells as the released guide's own fill.sh prints them over the translation 2dba004a162e191d… (all of the seat's roots in one cut). By AI agents, Wed Nov 11 2026. No macro, syntax, notation, axiom, sorry.
-/
import Derived.Test.YteckkbjpeckjmaaChecked
import GoSem.Claim
import GoSem.ClaimJoined
import GoSem.ClaimMapViews
import Derived.JoinedTies
import Derived.KernelRfl
namespace Go.Proofs.Yteckkbjpeckjmaa
/- THE CELL 'sum', in the pinned program and in every row, IS THE sha256 OF THE DUMP (.gsa) THAT YteckkbjpeckjmaaProg.lean LOADS. Nothing in Lean hashes anything: it is a label: what it is worth is what the hold of that sum in a sandbox is worth. -/
noncomputable def Try.pinned : Pinned := { name := "yteckkbjpeckjmaa", sum := "2dba004a162e191d79d21640720e70b0547a6c061bfab33fbae2f92415d844cf", checked := Try.checked }
namespace Rows
def none {H : Type} : Left H := { results := [], args := [] }

/-- 'sentinellaw04.RegexExamples': WHATEVER THE INPUT: true; the input reads as it did. -/
def regexExamplesSpec : ChangeSpec := { name := "regexExamples", fn := fun _ => fun
  | [] => { results := [.lit (.bool true)], args := [] }
  | _ => none }
def regexExamplesRow : OpenClaim := { program := "yteckkbjpeckjmaa", sum := "2dba004a162e191d79d21640720e70b0547a6c061bfab33fbae2f92415d844cf", func := "sentinel/sentinellaw04.RegexExamples", spec := "regexExamples", inPlace := ["internal/abi.NoEscape"], unfollowed := true, recurses := true, apart := false }
def RegexExamplesSaid : Prop := regexExamplesRow.holds Try.pinned (OpenSpec.ofChange regexExamplesSpec)

/-- ITS FALSE NEIGHBOUR: 'it returns false'. Refute it at one input. -/
def regexExamplesWrong : ChangeSpec := { name := "regexExamples", fn := fun _ => fun
  | [] => { results := [.lit (.bool false)], args := [] }
  | _ => none }
def RegexExamplesWrongFalsely : Prop := regexExamplesRow.holds Try.pinned (OpenSpec.ofChange regexExamplesWrong)

/-- 'sentinellaw05.MatchTables': WHATEVER THE INPUT: true; the input reads as it did. -/
def matchTablesSpec : ChangeSpec := { name := "matchTables", fn := fun _ => fun
  | [d1, d2, d3] => { results := [.lit (.bool true)], args := [d1, d2, d3] }
  | _ => none }
def matchTablesRow : OpenClaim := { program := "yteckkbjpeckjmaa", sum := "2dba004a162e191d79d21640720e70b0547a6c061bfab33fbae2f92415d844cf", func := "sentinel/sentinellaw05.MatchTables", spec := "matchTables", unfollowed := true, recurses := true, apart := false }
def MatchTablesSaid : Prop := matchTablesRow.holds Try.pinned (OpenSpec.ofChange matchTablesSpec)

/-- ITS FALSE NEIGHBOUR: 'it returns false'. Refute it at one input. -/
def matchTablesWrong : ChangeSpec := { name := "matchTables", fn := fun _ => fun
  | [d1, d2, d3] => { results := [.lit (.bool false)], args := [d1, d2, d3] }
  | _ => none }
def MatchTablesWrongFalsely : Prop := matchTablesRow.holds Try.pinned (OpenSpec.ofChange matchTablesWrong)

/-- 'sentinellaw05.MatchDerives': WHATEVER THE INPUT: true; the input reads as it did. -/
def matchDerivesSpec : ChangeSpec := { name := "matchDerives", fn := fun _ => fun
  | [d1, d2, d3] => { results := [.lit (.bool true)], args := [d1, d2, d3] }
  | _ => none }
def matchDerivesRow : OpenClaim := { program := "yteckkbjpeckjmaa", sum := "2dba004a162e191d79d21640720e70b0547a6c061bfab33fbae2f92415d844cf", func := "sentinel/sentinellaw05.MatchDerives", spec := "matchDerives", unfollowed := true, recurses := true, apart := false }
def MatchDerivesSaid : Prop := matchDerivesRow.holds Try.pinned (OpenSpec.ofChange matchDerivesSpec)

/-- ITS FALSE NEIGHBOUR: 'it returns false'. Refute it at one input. -/
def matchDerivesWrong : ChangeSpec := { name := "matchDerives", fn := fun _ => fun
  | [d1, d2, d3] => { results := [.lit (.bool false)], args := [d1, d2, d3] }
  | _ => none }
def MatchDerivesWrongFalsely : Prop := matchDerivesRow.holds Try.pinned (OpenSpec.ofChange matchDerivesWrong)

/- THE SECOND FORM. 'bulk': how many values and letters a reading holds, each counted each time it is reached (what is shared counts as often as it is met; a slice's spare places count too). A statement '..UptoSaid' is the law's where the arguments, and the package variables that the reading takes, are together of bulk at most 1048576: NARROWER than '..Said'. Prove '..Said' where nothing that the law and all that it calls make is longer than what came in: it says more and counts as full. Else prove '..UptoSaid'. A law counts once. -/
mutual
def uptoBulk {H : Type} : DataW H → Nat
  | .lit (.string bytes) => bytes.length + 1
  | .lit _ => 1
  | .nil => 1
  | .ptr d => uptoBulk d + 1
  | .slice elems spare => uptoBulkAll elems + uptoBulkAll spare + 1
  | .agg parts => uptoBulkAll parts + 1
  | .iface _ d => uptoBulk d + 1
  | .map entries => uptoBulkEntries entries + 1
  | .held _ => 1
def uptoBulkAll {H : Type} : List (DataW H) → Nat
  | [] => 0
  | d :: r => uptoBulk d + uptoBulkAll r
def uptoBulkEntries {H : Type} : List (Lit × DataW H) → Nat
  | [] => 0
  | x :: r => uptoBulkEntry x + uptoBulkEntries r
def uptoBulkEntry {H : Type} : Lit × DataW H → Nat
  | (.string bytes, d) => bytes.length + uptoBulk d + 1
  | (_, d) => uptoBulk d + 1
 end
def uptoSmall : (H : Type) → List (DataW H) → Bool := fun _ ds => decide (uptoBulkAll ds ≤ 1048576)
def OpenSpec.upto (s : _root_.Go.ChangeSpec) : _root_.Go.OpenSpec := { _root_.Go.OpenSpec.ofChange s with cond := some uptoSmall }

/-- 'sentinellaw04.RegexExamples', WHERE WHAT IT READS IS OF BULK AT MOST 1048576: true; the input reads as it did. -/
def regexExamplesUptoRow : OpenClaim := { program := "yteckkbjpeckjmaa", sum := "2dba004a162e191d79d21640720e70b0547a6c061bfab33fbae2f92415d844cf", func := "sentinel/sentinellaw04.RegexExamples", spec := "regexExamples", inPlace := ["internal/abi.NoEscape"], unfollowed := true, recurses := true, apart := false, narrowed := true }
def RegexExamplesUptoSaid : Prop := regexExamplesUptoRow.holds Try.pinned (OpenSpec.upto regexExamplesSpec)

/-- 'sentinellaw05.MatchTables', WHERE WHAT IT READS IS OF BULK AT MOST 1048576: true; the input reads as it did. -/
def matchTablesUptoRow : OpenClaim := { program := "yteckkbjpeckjmaa", sum := "2dba004a162e191d79d21640720e70b0547a6c061bfab33fbae2f92415d844cf", func := "sentinel/sentinellaw05.MatchTables", spec := "matchTables", unfollowed := true, recurses := true, apart := false, narrowed := true }
def MatchTablesUptoSaid : Prop := matchTablesUptoRow.holds Try.pinned (OpenSpec.upto matchTablesSpec)

/-- 'sentinellaw05.MatchDerives', WHERE WHAT IT READS IS OF BULK AT MOST 1048576: true; the input reads as it did. -/
def matchDerivesUptoRow : OpenClaim := { program := "yteckkbjpeckjmaa", sum := "2dba004a162e191d79d21640720e70b0547a6c061bfab33fbae2f92415d844cf", func := "sentinel/sentinellaw05.MatchDerives", spec := "matchDerives", unfollowed := true, recurses := true, apart := false, narrowed := true }
def MatchDerivesUptoSaid : Prop := matchDerivesUptoRow.holds Try.pinned (OpenSpec.upto matchDerivesSpec)

end Rows
end Go.Proofs.Yteckkbjpeckjmaa
