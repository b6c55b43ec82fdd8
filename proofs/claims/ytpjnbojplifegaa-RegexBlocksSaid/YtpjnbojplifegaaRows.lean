/-
  No cell of these rows narrows 'for every input' (looked for: loops, veiled, ifaces, maps, wideKeys, modest, calm, conditions, laid).
  DERIVED. THE GIVEN ROWS OF THIS SEAT. 7 by the template 'for every input the law returns true; each argument reads behind the call as it read before'; 0 by the template 'total and deterministic' (their statements: YtpjnbojplifegaaTotals.lean).
  GIVEN WITH THE SEED: the statements are not yours to turn. If you find one false, say at which input.
  Laid BY PROGRAM, IN A SANDBOX (cutbox-rows.mjs): the forced cells as the released guide's own fill.sh prints them over the translation 2d1bfaedacab675e… (all of the seat's roots in one cut). By AI agents, Wed Nov 11 2026. No macro, syntax, notation, axiom, sorry.
-/
import Derived.Test.YtpjnbojplifegaaChecked
import GoSem.Claim
import GoSem.ClaimJoined
import GoSem.ClaimMapViews
import Derived.JoinedTies
import Derived.KernelRfl
namespace Go.Proofs.Ytpjnbojplifegaa
/- THE CELL 'sum', in the pinned program and in every row, IS THE sha256 OF THE DUMP (.gsa) THAT YtpjnbojplifegaaProg.lean LOADS. Nothing in Lean hashes anything: it is a label: what it is worth is what the hold of that sum in a sandbox is worth. -/
noncomputable def Try.pinned : Pinned := { name := "ytpjnbojplifegaa", sum := "2d1bfaedacab675e5209cb3e6f0abbdc0dfd642b21a704ef7fc3f668b14af1c3", checked := Try.checked }
namespace Rows
def none {H : Type} : Left H := { results := [], args := [] }

/-- 'sentinellaw04.RegexMatches': WHATEVER THE INPUT: true; the input reads as it did. -/
def regexMatchesSpec : ChangeSpec := { name := "regexMatches", fn := fun _ => fun
  | [d1, d2, d3] => { results := [.lit (.bool true)], args := [d1, d2, d3] }
  | _ => none }
def regexMatchesRow : OpenClaim := { program := "ytpjnbojplifegaa", sum := "2d1bfaedacab675e5209cb3e6f0abbdc0dfd642b21a704ef7fc3f668b14af1c3", func := "sentinel/sentinellaw04.RegexMatches", spec := "regexMatches", inPlace := ["internal/abi.NoEscape"], unfollowed := true, recurses := true, apart := false }
def RegexMatchesSaid : Prop := regexMatchesRow.holds Try.pinned (OpenSpec.ofChange regexMatchesSpec)

/-- ITS FALSE NEIGHBOUR: 'it returns false'. Refute it at one input. -/
def regexMatchesWrong : ChangeSpec := { name := "regexMatches", fn := fun _ => fun
  | [d1, d2, d3] => { results := [.lit (.bool false)], args := [d1, d2, d3] }
  | _ => none }
def RegexMatchesWrongFalsely : Prop := regexMatchesRow.holds Try.pinned (OpenSpec.ofChange regexMatchesWrong)

/-- 'sentinellaw04.RegexParse': WHATEVER THE INPUT: true; the input reads as it did. -/
def regexParseSpec : ChangeSpec := { name := "regexParse", fn := fun _ => fun
  | [d1, d2] => { results := [.lit (.bool true)], args := [d1, d2] }
  | _ => none }
def regexParseRow : OpenClaim := { program := "ytpjnbojplifegaa", sum := "2d1bfaedacab675e5209cb3e6f0abbdc0dfd642b21a704ef7fc3f668b14af1c3", func := "sentinel/sentinellaw04.RegexParse", spec := "regexParse", inPlace := ["internal/abi.NoEscape"], unfollowed := true, recurses := true, apart := false }
def RegexParseSaid : Prop := regexParseRow.holds Try.pinned (OpenSpec.ofChange regexParseSpec)

/-- ITS FALSE NEIGHBOUR: 'it returns false'. Refute it at one input. -/
def regexParseWrong : ChangeSpec := { name := "regexParse", fn := fun _ => fun
  | [d1, d2] => { results := [.lit (.bool false)], args := [d1, d2] }
  | _ => none }
def RegexParseWrongFalsely : Prop := regexParseRow.holds Try.pinned (OpenSpec.ofChange regexParseWrong)

/-- 'sentinellaw04.RegexExamples': WHATEVER THE INPUT: true; the input reads as it did. -/
def regexExamplesSpec : ChangeSpec := { name := "regexExamples", fn := fun _ => fun
  | [] => { results := [.lit (.bool true)], args := [] }
  | _ => none }
def regexExamplesRow : OpenClaim := { program := "ytpjnbojplifegaa", sum := "2d1bfaedacab675e5209cb3e6f0abbdc0dfd642b21a704ef7fc3f668b14af1c3", func := "sentinel/sentinellaw04.RegexExamples", spec := "regexExamples", inPlace := ["internal/abi.NoEscape"], unfollowed := true, recurses := true, apart := false }
def RegexExamplesSaid : Prop := regexExamplesRow.holds Try.pinned (OpenSpec.ofChange regexExamplesSpec)

/-- ITS FALSE NEIGHBOUR: 'it returns false'. Refute it at one input. -/
def regexExamplesWrong : ChangeSpec := { name := "regexExamples", fn := fun _ => fun
  | [] => { results := [.lit (.bool false)], args := [] }
  | _ => none }
def RegexExamplesWrongFalsely : Prop := regexExamplesRow.holds Try.pinned (OpenSpec.ofChange regexExamplesWrong)

/-- 'sentinellaw04.RegexRoundTrip': WHATEVER THE INPUT: true; the input reads as it did. -/
def regexRoundTripSpec : ChangeSpec := { name := "regexRoundTrip", fn := fun _ => fun
  | [d1, d2, d3] => { results := [.lit (.bool true)], args := [d1, d2, d3] }
  | _ => none }
def regexRoundTripRow : OpenClaim := { program := "ytpjnbojplifegaa", sum := "2d1bfaedacab675e5209cb3e6f0abbdc0dfd642b21a704ef7fc3f668b14af1c3", func := "sentinel/sentinellaw04.RegexRoundTrip", spec := "regexRoundTrip", inPlace := ["internal/abi.NoEscape"], unfollowed := true, recurses := true, apart := false }
def RegexRoundTripSaid : Prop := regexRoundTripRow.holds Try.pinned (OpenSpec.ofChange regexRoundTripSpec)

/-- ITS FALSE NEIGHBOUR: 'it returns false'. Refute it at one input. -/
def regexRoundTripWrong : ChangeSpec := { name := "regexRoundTrip", fn := fun _ => fun
  | [d1, d2, d3] => { results := [.lit (.bool false)], args := [d1, d2, d3] }
  | _ => none }
def RegexRoundTripWrongFalsely : Prop := regexRoundTripRow.holds Try.pinned (OpenSpec.ofChange regexRoundTripWrong)

/-- 'sentinellaw04.RegexReverses': WHATEVER THE INPUT: true; the input reads as it did. -/
def regexReversesSpec : ChangeSpec := { name := "regexReverses", fn := fun _ => fun
  | [d1, d2] => { results := [.lit (.bool true)], args := [d1, d2] }
  | _ => none }
def regexReversesRow : OpenClaim := { program := "ytpjnbojplifegaa", sum := "2d1bfaedacab675e5209cb3e6f0abbdc0dfd642b21a704ef7fc3f668b14af1c3", func := "sentinel/sentinellaw04.RegexReverses", spec := "regexReverses", inPlace := ["internal/abi.NoEscape"], unfollowed := true, recurses := true, apart := false }
def RegexReversesSaid : Prop := regexReversesRow.holds Try.pinned (OpenSpec.ofChange regexReversesSpec)

/-- ITS FALSE NEIGHBOUR: 'it returns false'. Refute it at one input. -/
def regexReversesWrong : ChangeSpec := { name := "regexReverses", fn := fun _ => fun
  | [d1, d2] => { results := [.lit (.bool false)], args := [d1, d2] }
  | _ => none }
def RegexReversesWrongFalsely : Prop := regexReversesRow.holds Try.pinned (OpenSpec.ofChange regexReversesWrong)

/-- 'sentinellaw04.RegexBlocks': WHATEVER THE INPUT: true; the input reads as it did. -/
def regexBlocksSpec : ChangeSpec := { name := "regexBlocks", fn := fun _ => fun
  | [d1, d2, d3] => { results := [.lit (.bool true)], args := [d1, d2, d3] }
  | _ => none }
def regexBlocksRow : OpenClaim := { program := "ytpjnbojplifegaa", sum := "2d1bfaedacab675e5209cb3e6f0abbdc0dfd642b21a704ef7fc3f668b14af1c3", func := "sentinel/sentinellaw04.RegexBlocks", spec := "regexBlocks", inPlace := ["internal/abi.NoEscape"], unfollowed := true, recurses := true, apart := false }
def RegexBlocksSaid : Prop := regexBlocksRow.holds Try.pinned (OpenSpec.ofChange regexBlocksSpec)

/-- ITS FALSE NEIGHBOUR: 'it returns false'. Refute it at one input. -/
def regexBlocksWrong : ChangeSpec := { name := "regexBlocks", fn := fun _ => fun
  | [d1, d2, d3] => { results := [.lit (.bool false)], args := [d1, d2, d3] }
  | _ => none }
def RegexBlocksWrongFalsely : Prop := regexBlocksRow.holds Try.pinned (OpenSpec.ofChange regexBlocksWrong)

/-- 'sentinellaw04.RegexCuts': WHATEVER THE INPUT: true; the input reads as it did. -/
def regexCutsSpec : ChangeSpec := { name := "regexCuts", fn := fun _ => fun
  | [d1, d2, d3, d4] => { results := [.lit (.bool true)], args := [d1, d2, d3, d4] }
  | _ => none }
def regexCutsRow : OpenClaim := { program := "ytpjnbojplifegaa", sum := "2d1bfaedacab675e5209cb3e6f0abbdc0dfd642b21a704ef7fc3f668b14af1c3", func := "sentinel/sentinellaw04.RegexCuts", spec := "regexCuts", inPlace := ["internal/abi.NoEscape"], unfollowed := true, recurses := true, apart := false }
def RegexCutsSaid : Prop := regexCutsRow.holds Try.pinned (OpenSpec.ofChange regexCutsSpec)

/-- ITS FALSE NEIGHBOUR: 'it returns false'. Refute it at one input. -/
def regexCutsWrong : ChangeSpec := { name := "regexCuts", fn := fun _ => fun
  | [d1, d2, d3, d4] => { results := [.lit (.bool false)], args := [d1, d2, d3, d4] }
  | _ => none }
def RegexCutsWrongFalsely : Prop := regexCutsRow.holds Try.pinned (OpenSpec.ofChange regexCutsWrong)

/- THE SECOND FORM. 'bulk': how many values and letters a reading holds, each counted each time it is reached (what is shared counts as often as it is met; a slice's spare places count too). A statement '..UptoSaid' is the law's where the arguments, and the package variables that the reading takes, are together of bulk at most 1048576: NARROWER than '..Said'. Prove '..Said' where nothing that the law and all that it calls make is longer than what came in: it says more and counts as full. Else prove '..UptoSaid'. A law counts once. -/
mutual
def uptoBulk {H : Type} : DataW H → Nat
  | .lit (.string bytes) => bytes.length + 1
  | .lit _ => 1
  | .nil => 1
  | .ptr d => uptoBulk d + 1
  | .slice elems spare => uptoBulkAll elems + uptoBulkAll spare + 1
  | .agg parts => uptoBulkAll parts + 1
  | .iface _ d => uptoBulk d + 1
  | .map entries => uptoBulkEntries entries + 1
  | .held _ => 1
def uptoBulkAll {H : Type} : List (DataW H) → Nat
  | [] => 0
  | d :: r => uptoBulk d + uptoBulkAll r
def uptoBulkEntries {H : Type} : List (Lit × DataW H) → Nat
  | [] => 0
  | x :: r => uptoBulkEntry x + uptoBulkEntries r
def uptoBulkEntry {H : Type} : Lit × DataW H → Nat
  | (.string bytes, d) => bytes.length + uptoBulk d + 1
  | (_, d) => uptoBulk d + 1
 end
def uptoSmall : (H : Type) → List (DataW H) → Bool := fun _ ds => decide (uptoBulkAll ds ≤ 1048576)
def OpenSpec.upto (s : _root_.Go.ChangeSpec) : _root_.Go.OpenSpec := { _root_.Go.OpenSpec.ofChange s with cond := some uptoSmall }

/-- 'sentinellaw04.RegexMatches', WHERE WHAT IT READS IS OF BULK AT MOST 1048576: true; the input reads as it did. -/
def regexMatchesUptoRow : OpenClaim := { program := "ytpjnbojplifegaa", sum := "2d1bfaedacab675e5209cb3e6f0abbdc0dfd642b21a704ef7fc3f668b14af1c3", func := "sentinel/sentinellaw04.RegexMatches", spec := "regexMatches", inPlace := ["internal/abi.NoEscape"], unfollowed := true, recurses := true, apart := false, narrowed := true }
def RegexMatchesUptoSaid : Prop := regexMatchesUptoRow.holds Try.pinned (OpenSpec.upto regexMatchesSpec)

/-- 'sentinellaw04.RegexParse', WHERE WHAT IT READS IS OF BULK AT MOST 1048576: true; the input reads as it did. -/
def regexParseUptoRow : OpenClaim := { program := "ytpjnbojplifegaa", sum := "2d1bfaedacab675e5209cb3e6f0abbdc0dfd642b21a704ef7fc3f668b14af1c3", func := "sentinel/sentinellaw04.RegexParse", spec := "regexParse", inPlace := ["internal/abi.NoEscape"], unfollowed := true, recurses := true, apart := false, narrowed := true }
def RegexParseUptoSaid : Prop := regexParseUptoRow.holds Try.pinned (OpenSpec.upto regexParseSpec)

/-- 'sentinellaw04.RegexExamples', WHERE WHAT IT READS IS OF BULK AT MOST 1048576: true; the input reads as it did. -/
def regexExamplesUptoRow : OpenClaim := { program := "ytpjnbojplifegaa", sum := "2d1bfaedacab675e5209cb3e6f0abbdc0dfd642b21a704ef7fc3f668b14af1c3", func := "sentinel/sentinellaw04.RegexExamples", spec := "regexExamples", inPlace := ["internal/abi.NoEscape"], unfollowed := true, recurses := true, apart := false, narrowed := true }
def RegexExamplesUptoSaid : Prop := regexExamplesUptoRow.holds Try.pinned (OpenSpec.upto regexExamplesSpec)

/-- 'sentinellaw04.RegexRoundTrip', WHERE WHAT IT READS IS OF BULK AT MOST 1048576: true; the input reads as it did. -/
def regexRoundTripUptoRow : OpenClaim := { program := "ytpjnbojplifegaa", sum := "2d1bfaedacab675e5209cb3e6f0abbdc0dfd642b21a704ef7fc3f668b14af1c3", func := "sentinel/sentinellaw04.RegexRoundTrip", spec := "regexRoundTrip", inPlace := ["internal/abi.NoEscape"], unfollowed := true, recurses := true, apart := false, narrowed := true }
def RegexRoundTripUptoSaid : Prop := regexRoundTripUptoRow.holds Try.pinned (OpenSpec.upto regexRoundTripSpec)

/-- 'sentinellaw04.RegexReverses', WHERE WHAT IT READS IS OF BULK AT MOST 1048576: true; the input reads as it did. -/
def regexReversesUptoRow : OpenClaim := { program := "ytpjnbojplifegaa", sum := "2d1bfaedacab675e5209cb3e6f0abbdc0dfd642b21a704ef7fc3f668b14af1c3", func := "sentinel/sentinellaw04.RegexReverses", spec := "regexReverses", inPlace := ["internal/abi.NoEscape"], unfollowed := true, recurses := true, apart := false, narrowed := true }
def RegexReversesUptoSaid : Prop := regexReversesUptoRow.holds Try.pinned (OpenSpec.upto regexReversesSpec)

/-- 'sentinellaw04.RegexBlocks', WHERE WHAT IT READS IS OF BULK AT MOST 1048576: true; the input reads as it did. -/
def regexBlocksUptoRow : OpenClaim := { program := "ytpjnbojplifegaa", sum := "2d1bfaedacab675e5209cb3e6f0abbdc0dfd642b21a704ef7fc3f668b14af1c3", func := "sentinel/sentinellaw04.RegexBlocks", spec := "regexBlocks", inPlace := ["internal/abi.NoEscape"], unfollowed := true, recurses := true, apart := false, narrowed := true }
def RegexBlocksUptoSaid : Prop := regexBlocksUptoRow.holds Try.pinned (OpenSpec.upto regexBlocksSpec)

/-- 'sentinellaw04.RegexCuts', WHERE WHAT IT READS IS OF BULK AT MOST 1048576: true; the input reads as it did. -/
def regexCutsUptoRow : OpenClaim := { program := "ytpjnbojplifegaa", sum := "2d1bfaedacab675e5209cb3e6f0abbdc0dfd642b21a704ef7fc3f668b14af1c3", func := "sentinel/sentinellaw04.RegexCuts", spec := "regexCuts", inPlace := ["internal/abi.NoEscape"], unfollowed := true, recurses := true, apart := false, narrowed := true }
def RegexCutsUptoSaid : Prop := regexCutsUptoRow.holds Try.pinned (OpenSpec.upto regexCutsSpec)

end Rows
end Go.Proofs.Ytpjnbojplifegaa
