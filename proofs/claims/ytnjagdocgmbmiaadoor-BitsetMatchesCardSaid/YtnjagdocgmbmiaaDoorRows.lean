/-
  NARROWER THAN 'FOR EVERY INPUT', by the rows' own cells (each row's printed sentence says how): BitsetMatches: laid · BitsetOperations: laid · BitsetExamples: laid · BitsetAlgebra: laid · BitsetCounts: laid · BitsetLists: laid · BitsetSingle: laid · BitsetOrder: laid.
  DERIVED. THE GIVEN ROWS OF THIS SEAT. 8 by the template 'for every input the law returns true; each argument reads behind the call as it read before'; 0 by the template 'total and deterministic' (their statements: YtnjagdocgmbmiaaDoorTotals.lean).
  GIVEN WITH THE SEED: the statements are not yours to turn. If you find one false, say at which input.
  Laid BY PROGRAM, IN A SANDBOX (cutbox-rows.mjs): the forced cells as the released guide's own fill.sh prints them over the translation f1182797932ec147… (all of the seat's roots in one cut). By AI agents, Wed Nov 11 2026. No macro, syntax, notation, axiom, sorry.
-/
import Derived.Test.YtnjagdocgmbmiaaDoorChecked
import GoSem.Claim
import GoSem.ClaimJoined
import GoSem.ClaimMapViews
import Derived.JoinedTies
import Derived.KernelRfl
namespace Go.Proofs.YtnjagdocgmbmiaaDoor
/- THE CELL 'sum', in the pinned program and in every row, IS THE sha256 OF THE DUMP (.gsa) THAT YtnjagdocgmbmiaaDoorProg.lean LOADS. Nothing in Lean hashes anything: it is a label: what it is worth is what the hold of that sum in a sandbox is worth. -/
noncomputable def Tryd.pinned : Pinned := { name := "ytnjagdocgmbmiaadoor", sum := "f1182797932ec147e671fd0673db5ef3f47cdf55396b08a97e187df528ae79c9", checked := Tryd.checked }
namespace Rows
def none {H : Type} : Left H := { results := [], args := [] }

/- WHAT THE LISTED PACKAGE-LEVEL VARIABLES READ AS WHEN THE CALL BEGINS. Each datum BY PROGRAM (the guide's laid-datum.mjs) off the statement by which the dump's own 'gosem.cut.vars' lays the variable. In a bare row this is a premise. The card (YtnjagdocgmbmiaaDoorCards.lean) ties it to the program's text. -/
def laid_math_bits_deBruijn64tab {H : Type} : DataW H := .agg [.lit (.int .u8 0), .lit (.int .u8 1), .lit (.int .u8 56), .lit (.int .u8 2), .lit (.int .u8 57), .lit (.int .u8 49), .lit (.int .u8 28), .lit (.int .u8 3), .lit (.int .u8 61), .lit (.int .u8 58), .lit (.int .u8 42), .lit (.int .u8 50), .lit (.int .u8 38), .lit (.int .u8 29), .lit (.int .u8 17), .lit (.int .u8 4), .lit (.int .u8 62), .lit (.int .u8 47), .lit (.int .u8 59), .lit (.int .u8 36), .lit (.int .u8 45), .lit (.int .u8 43), .lit (.int .u8 51), .lit (.int .u8 22), .lit (.int .u8 53), .lit (.int .u8 39), .lit (.int .u8 33), .lit (.int .u8 30), .lit (.int .u8 24), .lit (.int .u8 18), .lit (.int .u8 12), .lit (.int .u8 5), .lit (.int .u8 63), .lit (.int .u8 55), .lit (.int .u8 48), .lit (.int .u8 27), .lit (.int .u8 60), .lit (.int .u8 41), .lit (.int .u8 37), .lit (.int .u8 16), .lit (.int .u8 46), .lit (.int .u8 35), .lit (.int .u8 44), .lit (.int .u8 21), .lit (.int .u8 52), .lit (.int .u8 32), .lit (.int .u8 23), .lit (.int .u8 11), .lit (.int .u8 54), .lit (.int .u8 26), .lit (.int .u8 40), .lit (.int .u8 15), .lit (.int .u8 34), .lit (.int .u8 20), .lit (.int .u8 31), .lit (.int .u8 10), .lit (.int .u8 25), .lit (.int .u8 14), .lit (.int .u8 19), .lit (.int .u8 9), .lit (.int .u8 13), .lit (.int .u8 8), .lit (.int .u8 7), .lit (.int .u8 6)]

/-- 'sentinellaw01.BitsetMatches': WHATEVER THE INPUT: true; the input reads as it did. -/
def bitsetMatchesSpec : ChangeSpec := { name := "bitsetMatches", fn := fun _ => fun
  | [d1, d2, d3] => { results := [.lit (.bool true)], args := [d1, d2, d3] }
  | _ => none }
def bitsetMatchesRow : OpenClaim := { program := "ytnjagdocgmbmiaadoor", sum := "f1182797932ec147e671fd0673db5ef3f47cdf55396b08a97e187df528ae79c9", func := "sentinel/sentinellaw01.BitsetMatches", spec := "bitsetMatches", unfollowed := true, recurses := true, named := ["math/bits.deBruijn64tab"], apart := false, laid := [("math/bits.deBruijn64tab", laid_math_bits_deBruijn64tab)] }
def BitsetMatchesSaid : Prop := bitsetMatchesRow.holds Tryd.pinned (OpenSpec.ofChange bitsetMatchesSpec)

/-- ITS FALSE NEIGHBOUR: 'it returns false'. Refute it at one input. -/
def bitsetMatchesWrong : ChangeSpec := { name := "bitsetMatches", fn := fun _ => fun
  | [d1, d2, d3] => { results := [.lit (.bool false)], args := [d1, d2, d3] }
  | _ => none }
def BitsetMatchesWrongFalsely : Prop := bitsetMatchesRow.holds Tryd.pinned (OpenSpec.ofChange bitsetMatchesWrong)

/-- 'sentinellaw01.BitsetOperations': WHATEVER THE INPUT: true; the input reads as it did. -/
def bitsetOperationsSpec : ChangeSpec := { name := "bitsetOperations", fn := fun _ => fun
  | [d1, d2] => { results := [.lit (.bool true)], args := [d1, d2] }
  | _ => none }
def bitsetOperationsRow : OpenClaim := { program := "ytnjagdocgmbmiaadoor", sum := "f1182797932ec147e671fd0673db5ef3f47cdf55396b08a97e187df528ae79c9", func := "sentinel/sentinellaw01.BitsetOperations", spec := "bitsetOperations", unfollowed := true, recurses := true, named := ["math/bits.deBruijn64tab"], apart := false, laid := [("math/bits.deBruijn64tab", laid_math_bits_deBruijn64tab)] }
def BitsetOperationsSaid : Prop := bitsetOperationsRow.holds Tryd.pinned (OpenSpec.ofChange bitsetOperationsSpec)

/-- ITS FALSE NEIGHBOUR: 'it returns false'. Refute it at one input. -/
def bitsetOperationsWrong : ChangeSpec := { name := "bitsetOperations", fn := fun _ => fun
  | [d1, d2] => { results := [.lit (.bool false)], args := [d1, d2] }
  | _ => none }
def BitsetOperationsWrongFalsely : Prop := bitsetOperationsRow.holds Tryd.pinned (OpenSpec.ofChange bitsetOperationsWrong)

/-- 'sentinellaw01.BitsetExamples': WHATEVER THE INPUT: true; the input reads as it did. -/
def bitsetExamplesSpec : ChangeSpec := { name := "bitsetExamples", fn := fun _ => fun
  | [] => { results := [.lit (.bool true)], args := [] }
  | _ => none }
def bitsetExamplesRow : OpenClaim := { program := "ytnjagdocgmbmiaadoor", sum := "f1182797932ec147e671fd0673db5ef3f47cdf55396b08a97e187df528ae79c9", func := "sentinel/sentinellaw01.BitsetExamples", spec := "bitsetExamples", unfollowed := true, recurses := true, named := ["math/bits.deBruijn64tab"], apart := false, laid := [("math/bits.deBruijn64tab", laid_math_bits_deBruijn64tab)] }
def BitsetExamplesSaid : Prop := bitsetExamplesRow.holds Tryd.pinned (OpenSpec.ofChange bitsetExamplesSpec)

/-- ITS FALSE NEIGHBOUR: 'it returns false'. Refute it at one input. -/
def bitsetExamplesWrong : ChangeSpec := { name := "bitsetExamples", fn := fun _ => fun
  | [] => { results := [.lit (.bool false)], args := [] }
  | _ => none }
def BitsetExamplesWrongFalsely : Prop := bitsetExamplesRow.holds Tryd.pinned (OpenSpec.ofChange bitsetExamplesWrong)

/-- 'sentinellaw01.BitsetAlgebra': WHATEVER THE INPUT: true; the input reads as it did. -/
def bitsetAlgebraSpec : ChangeSpec := { name := "bitsetAlgebra", fn := fun _ => fun
  | [d1, d2, d3] => { results := [.lit (.bool true)], args := [d1, d2, d3] }
  | _ => none }
def bitsetAlgebraRow : OpenClaim := { program := "ytnjagdocgmbmiaadoor", sum := "f1182797932ec147e671fd0673db5ef3f47cdf55396b08a97e187df528ae79c9", func := "sentinel/sentinellaw01.BitsetAlgebra", spec := "bitsetAlgebra", unfollowed := true, recurses := true, named := ["math/bits.deBruijn64tab"], apart := false, laid := [("math/bits.deBruijn64tab", laid_math_bits_deBruijn64tab)] }
def BitsetAlgebraSaid : Prop := bitsetAlgebraRow.holds Tryd.pinned (OpenSpec.ofChange bitsetAlgebraSpec)

/-- ITS FALSE NEIGHBOUR: 'it returns false'. Refute it at one input. -/
def bitsetAlgebraWrong : ChangeSpec := { name := "bitsetAlgebra", fn := fun _ => fun
  | [d1, d2, d3] => { results := [.lit (.bool false)], args := [d1, d2, d3] }
  | _ => none }
def BitsetAlgebraWrongFalsely : Prop := bitsetAlgebraRow.holds Tryd.pinned (OpenSpec.ofChange bitsetAlgebraWrong)

/-- 'sentinellaw01.BitsetCounts': WHATEVER THE INPUT: true; the input reads as it did. -/
def bitsetCountsSpec : ChangeSpec := { name := "bitsetCounts", fn := fun _ => fun
  | [d1, d2] => { results := [.lit (.bool true)], args := [d1, d2] }
  | _ => none }
def bitsetCountsRow : OpenClaim := { program := "ytnjagdocgmbmiaadoor", sum := "f1182797932ec147e671fd0673db5ef3f47cdf55396b08a97e187df528ae79c9", func := "sentinel/sentinellaw01.BitsetCounts", spec := "bitsetCounts", unfollowed := true, recurses := true, named := ["math/bits.deBruijn64tab"], apart := false, laid := [("math/bits.deBruijn64tab", laid_math_bits_deBruijn64tab)] }
def BitsetCountsSaid : Prop := bitsetCountsRow.holds Tryd.pinned (OpenSpec.ofChange bitsetCountsSpec)

/-- ITS FALSE NEIGHBOUR: 'it returns false'. Refute it at one input. -/
def bitsetCountsWrong : ChangeSpec := { name := "bitsetCounts", fn := fun _ => fun
  | [d1, d2] => { results := [.lit (.bool false)], args := [d1, d2] }
  | _ => none }
def BitsetCountsWrongFalsely : Prop := bitsetCountsRow.holds Tryd.pinned (OpenSpec.ofChange bitsetCountsWrong)

/-- 'sentinellaw01.BitsetLists': WHATEVER THE INPUT: true; the input reads as it did. -/
def bitsetListsSpec : ChangeSpec := { name := "bitsetLists", fn := fun _ => fun
  | [d1, d2] => { results := [.lit (.bool true)], args := [d1, d2] }
  | _ => none }
def bitsetListsRow : OpenClaim := { program := "ytnjagdocgmbmiaadoor", sum := "f1182797932ec147e671fd0673db5ef3f47cdf55396b08a97e187df528ae79c9", func := "sentinel/sentinellaw01.BitsetLists", spec := "bitsetLists", unfollowed := true, recurses := true, named := ["math/bits.deBruijn64tab"], apart := false, laid := [("math/bits.deBruijn64tab", laid_math_bits_deBruijn64tab)] }
def BitsetListsSaid : Prop := bitsetListsRow.holds Tryd.pinned (OpenSpec.ofChange bitsetListsSpec)

/-- ITS FALSE NEIGHBOUR: 'it returns false'. Refute it at one input. -/
def bitsetListsWrong : ChangeSpec := { name := "bitsetLists", fn := fun _ => fun
  | [d1, d2] => { results := [.lit (.bool false)], args := [d1, d2] }
  | _ => none }
def BitsetListsWrongFalsely : Prop := bitsetListsRow.holds Tryd.pinned (OpenSpec.ofChange bitsetListsWrong)

/-- 'sentinellaw01.BitsetSingle': WHATEVER THE INPUT: true; the input reads as it did. -/
def bitsetSingleSpec : ChangeSpec := { name := "bitsetSingle", fn := fun _ => fun
  | [d1, d2, d3] => { results := [.lit (.bool true)], args := [d1, d2, d3] }
  | _ => none }
def bitsetSingleRow : OpenClaim := { program := "ytnjagdocgmbmiaadoor", sum := "f1182797932ec147e671fd0673db5ef3f47cdf55396b08a97e187df528ae79c9", func := "sentinel/sentinellaw01.BitsetSingle", spec := "bitsetSingle", unfollowed := true, recurses := true, named := ["math/bits.deBruijn64tab"], apart := false, laid := [("math/bits.deBruijn64tab", laid_math_bits_deBruijn64tab)] }
def BitsetSingleSaid : Prop := bitsetSingleRow.holds Tryd.pinned (OpenSpec.ofChange bitsetSingleSpec)

/-- ITS FALSE NEIGHBOUR: 'it returns false'. Refute it at one input. -/
def bitsetSingleWrong : ChangeSpec := { name := "bitsetSingle", fn := fun _ => fun
  | [d1, d2, d3] => { results := [.lit (.bool false)], args := [d1, d2, d3] }
  | _ => none }
def BitsetSingleWrongFalsely : Prop := bitsetSingleRow.holds Tryd.pinned (OpenSpec.ofChange bitsetSingleWrong)

/-- 'sentinellaw01.BitsetOrder': WHATEVER THE INPUT: true; the input reads as it did. -/
def bitsetOrderSpec : ChangeSpec := { name := "bitsetOrder", fn := fun _ => fun
  | [d1, d2, d3] => { results := [.lit (.bool true)], args := [d1, d2, d3] }
  | _ => none }
def bitsetOrderRow : OpenClaim := { program := "ytnjagdocgmbmiaadoor", sum := "f1182797932ec147e671fd0673db5ef3f47cdf55396b08a97e187df528ae79c9", func := "sentinel/sentinellaw01.BitsetOrder", spec := "bitsetOrder", unfollowed := true, recurses := true, named := ["math/bits.deBruijn64tab"], apart := false, laid := [("math/bits.deBruijn64tab", laid_math_bits_deBruijn64tab)] }
def BitsetOrderSaid : Prop := bitsetOrderRow.holds Tryd.pinned (OpenSpec.ofChange bitsetOrderSpec)

/-- ITS FALSE NEIGHBOUR: 'it returns false'. Refute it at one input. -/
def bitsetOrderWrong : ChangeSpec := { name := "bitsetOrder", fn := fun _ => fun
  | [d1, d2, d3] => { results := [.lit (.bool false)], args := [d1, d2, d3] }
  | _ => none }
def BitsetOrderWrongFalsely : Prop := bitsetOrderRow.holds Tryd.pinned (OpenSpec.ofChange bitsetOrderWrong)

/- THE SECOND FORM. 'bulk': how many values and letters a reading holds, each counted each time it is reached (what is shared counts as often as it is met; a slice's spare places count too). A statement '..UptoSaid' is the law's where the arguments, and the package variables that the reading takes, are together of bulk at most 1048576: NARROWER than '..Said'. Prove '..Said' where nothing that the law and all that it calls make is longer than what came in: it says more and counts as full. Else prove '..UptoSaid'. A law counts once. -/
mutual
def uptoBulk {H : Type} : DataW H → Nat
  | .lit (.string bytes) => bytes.length + 1
  | .lit _ => 1
  | .nil => 1
  | .ptr d => uptoBulk d + 1
  | .slice elems spare => uptoBulkAll elems + uptoBulkAll spare + 1
  | .agg parts => uptoBulkAll parts + 1
  | .iface _ d => uptoBulk d + 1
  | .map entries => uptoBulkEntries entries + 1
  | .held _ => 1
def uptoBulkAll {H : Type} : List (DataW H) → Nat
  | [] => 0
  | d :: r => uptoBulk d + uptoBulkAll r
def uptoBulkEntries {H : Type} : List (Lit × DataW H) → Nat
  | [] => 0
  | x :: r => uptoBulkEntry x + uptoBulkEntries r
def uptoBulkEntry {H : Type} : Lit × DataW H → Nat
  | (.string bytes, d) => bytes.length + uptoBulk d + 1
  | (_, d) => uptoBulk d + 1
 end
def uptoSmall : (H : Type) → List (DataW H) → Bool := fun _ ds => decide (uptoBulkAll ds ≤ 1048576)
def OpenSpec.upto (s : _root_.Go.ChangeSpec) : _root_.Go.OpenSpec := { _root_.Go.OpenSpec.ofChange s with cond := some uptoSmall }

/-- 'sentinellaw01.BitsetMatches', WHERE WHAT IT READS IS OF BULK AT MOST 1048576: true; the input reads as it did. -/
def bitsetMatchesUptoRow : OpenClaim := { program := "ytnjagdocgmbmiaadoor", sum := "f1182797932ec147e671fd0673db5ef3f47cdf55396b08a97e187df528ae79c9", func := "sentinel/sentinellaw01.BitsetMatches", spec := "bitsetMatches", unfollowed := true, recurses := true, named := ["math/bits.deBruijn64tab"], apart := false, laid := [("math/bits.deBruijn64tab", laid_math_bits_deBruijn64tab)], narrowed := true }
def BitsetMatchesUptoSaid : Prop := bitsetMatchesUptoRow.holds Tryd.pinned (OpenSpec.upto bitsetMatchesSpec)

/-- 'sentinellaw01.BitsetOperations', WHERE WHAT IT READS IS OF BULK AT MOST 1048576: true; the input reads as it did. -/
def bitsetOperationsUptoRow : OpenClaim := { program := "ytnjagdocgmbmiaadoor", sum := "f1182797932ec147e671fd0673db5ef3f47cdf55396b08a97e187df528ae79c9", func := "sentinel/sentinellaw01.BitsetOperations", spec := "bitsetOperations", unfollowed := true, recurses := true, named := ["math/bits.deBruijn64tab"], apart := false, laid := [("math/bits.deBruijn64tab", laid_math_bits_deBruijn64tab)], narrowed := true }
def BitsetOperationsUptoSaid : Prop := bitsetOperationsUptoRow.holds Tryd.pinned (OpenSpec.upto bitsetOperationsSpec)

/-- 'sentinellaw01.BitsetExamples', WHERE WHAT IT READS IS OF BULK AT MOST 1048576: true; the input reads as it did. -/
def bitsetExamplesUptoRow : OpenClaim := { program := "ytnjagdocgmbmiaadoor", sum := "f1182797932ec147e671fd0673db5ef3f47cdf55396b08a97e187df528ae79c9", func := "sentinel/sentinellaw01.BitsetExamples", spec := "bitsetExamples", unfollowed := true, recurses := true, named := ["math/bits.deBruijn64tab"], apart := false, laid := [("math/bits.deBruijn64tab", laid_math_bits_deBruijn64tab)], narrowed := true }
def BitsetExamplesUptoSaid : Prop := bitsetExamplesUptoRow.holds Tryd.pinned (OpenSpec.upto bitsetExamplesSpec)

/-- 'sentinellaw01.BitsetAlgebra', WHERE WHAT IT READS IS OF BULK AT MOST 1048576: true; the input reads as it did. -/
def bitsetAlgebraUptoRow : OpenClaim := { program := "ytnjagdocgmbmiaadoor", sum := "f1182797932ec147e671fd0673db5ef3f47cdf55396b08a97e187df528ae79c9", func := "sentinel/sentinellaw01.BitsetAlgebra", spec := "bitsetAlgebra", unfollowed := true, recurses := true, named := ["math/bits.deBruijn64tab"], apart := false, laid := [("math/bits.deBruijn64tab", laid_math_bits_deBruijn64tab)], narrowed := true }
def BitsetAlgebraUptoSaid : Prop := bitsetAlgebraUptoRow.holds Tryd.pinned (OpenSpec.upto bitsetAlgebraSpec)

/-- 'sentinellaw01.BitsetCounts', WHERE WHAT IT READS IS OF BULK AT MOST 1048576: true; the input reads as it did. -/
def bitsetCountsUptoRow : OpenClaim := { program := "ytnjagdocgmbmiaadoor", sum := "f1182797932ec147e671fd0673db5ef3f47cdf55396b08a97e187df528ae79c9", func := "sentinel/sentinellaw01.BitsetCounts", spec := "bitsetCounts", unfollowed := true, recurses := true, named := ["math/bits.deBruijn64tab"], apart := false, laid := [("math/bits.deBruijn64tab", laid_math_bits_deBruijn64tab)], narrowed := true }
def BitsetCountsUptoSaid : Prop := bitsetCountsUptoRow.holds Tryd.pinned (OpenSpec.upto bitsetCountsSpec)

/-- 'sentinellaw01.BitsetLists', WHERE WHAT IT READS IS OF BULK AT MOST 1048576: true; the input reads as it did. -/
def bitsetListsUptoRow : OpenClaim := { program := "ytnjagdocgmbmiaadoor", sum := "f1182797932ec147e671fd0673db5ef3f47cdf55396b08a97e187df528ae79c9", func := "sentinel/sentinellaw01.BitsetLists", spec := "bitsetLists", unfollowed := true, recurses := true, named := ["math/bits.deBruijn64tab"], apart := false, laid := [("math/bits.deBruijn64tab", laid_math_bits_deBruijn64tab)], narrowed := true }
def BitsetListsUptoSaid : Prop := bitsetListsUptoRow.holds Tryd.pinned (OpenSpec.upto bitsetListsSpec)

/-- 'sentinellaw01.BitsetSingle', WHERE WHAT IT READS IS OF BULK AT MOST 1048576: true; the input reads as it did. -/
def bitsetSingleUptoRow : OpenClaim := { program := "ytnjagdocgmbmiaadoor", sum := "f1182797932ec147e671fd0673db5ef3f47cdf55396b08a97e187df528ae79c9", func := "sentinel/sentinellaw01.BitsetSingle", spec := "bitsetSingle", unfollowed := true, recurses := true, named := ["math/bits.deBruijn64tab"], apart := false, laid := [("math/bits.deBruijn64tab", laid_math_bits_deBruijn64tab)], narrowed := true }
def BitsetSingleUptoSaid : Prop := bitsetSingleUptoRow.holds Tryd.pinned (OpenSpec.upto bitsetSingleSpec)

/-- 'sentinellaw01.BitsetOrder', WHERE WHAT IT READS IS OF BULK AT MOST 1048576: true; the input reads as it did. -/
def bitsetOrderUptoRow : OpenClaim := { program := "ytnjagdocgmbmiaadoor", sum := "f1182797932ec147e671fd0673db5ef3f47cdf55396b08a97e187df528ae79c9", func := "sentinel/sentinellaw01.BitsetOrder", spec := "bitsetOrder", unfollowed := true, recurses := true, named := ["math/bits.deBruijn64tab"], apart := false, laid := [("math/bits.deBruijn64tab", laid_math_bits_deBruijn64tab)], narrowed := true }
def BitsetOrderUptoSaid : Prop := bitsetOrderUptoRow.holds Tryd.pinned (OpenSpec.upto bitsetOrderSpec)

end Rows
end Go.Proofs.YtnjagdocgmbmiaaDoor
