/-
  NARROWER THAN 'FOR EVERY INPUT', by the rows' own cells (each row's printed sentence says how): BitsetMatches: laid · CubeMatches: laid · CubePairs: laid · CubeCover: laid · CubeParse: laid · CubeExamples: laid · CubeMeets: laid · CubeContains: laid · CubePrimes: laid · CubeRoundTrip: laid.
  DERIVED. THE GIVEN ROWS OF THIS SEAT. 10 by the template 'for every input the law returns true; each argument reads behind the call as it read before'; 0 by the template 'total and deterministic' (their statements: YtjjdhegkcilaiaaDoorTotals.lean).
  GIVEN WITH THE SEED: the statements are not yours to turn. If you find one false, say at which input.
  Laid BY PROGRAM, IN A SANDBOX (cutbox-rows.mjs): the forced cells as the released guide's own fill.sh prints them over the translation 5aeb4f5b8654981e… (all of the seat's roots in one cut). By AI agents, Wed Nov 11 2026. No macro, syntax, notation, axiom, sorry.
-/
import Derived.Test.YtjjdhegkcilaiaaDoorChecked
import GoSem.Claim
import GoSem.ClaimJoined
import GoSem.ClaimMapViews
import Derived.JoinedTies
import Derived.KernelRfl
namespace Go.Proofs.YtjjdhegkcilaiaaDoor
/- THE CELL 'sum', in the pinned program and in every row, IS THE sha256 OF THE DUMP (.gsa) THAT YtjjdhegkcilaiaaDoorProg.lean LOADS. Nothing in Lean hashes anything: it is a label: what it is worth is what the hold of that sum in a sandbox is worth. -/
noncomputable def Tryd.pinned : Pinned := { name := "ytjjdhegkcilaiaadoor", sum := "5aeb4f5b8654981eba01907408878391cf801b0ef084c35f60640751550e9d80", checked := Tryd.checked }
namespace Rows
def none {H : Type} : Left H := { results := [], args := [] }

/- WHAT THE LISTED PACKAGE-LEVEL VARIABLES READ AS WHEN THE CALL BEGINS. Each datum BY PROGRAM (the guide's laid-datum.mjs) off the statement by which the dump's own 'gosem.cut.vars' lays the variable. In a bare row this is a premise. The card (YtjjdhegkcilaiaaDoorCards.lean) ties it to the program's text. -/
def laid_math_bits_deBruijn64tab {H : Type} : DataW H := .agg [.lit (.int .u8 0), .lit (.int .u8 1), .lit (.int .u8 56), .lit (.int .u8 2), .lit (.int .u8 57), .lit (.int .u8 49), .lit (.int .u8 28), .lit (.int .u8 3), .lit (.int .u8 61), .lit (.int .u8 58), .lit (.int .u8 42), .lit (.int .u8 50), .lit (.int .u8 38), .lit (.int .u8 29), .lit (.int .u8 17), .lit (.int .u8 4), .lit (.int .u8 62), .lit (.int .u8 47), .lit (.int .u8 59), .lit (.int .u8 36), .lit (.int .u8 45), .lit (.int .u8 43), .lit (.int .u8 51), .lit (.int .u8 22), .lit (.int .u8 53), .lit (.int .u8 39), .lit (.int .u8 33), .lit (.int .u8 30), .lit (.int .u8 24), .lit (.int .u8 18), .lit (.int .u8 12), .lit (.int .u8 5), .lit (.int .u8 63), .lit (.int .u8 55), .lit (.int .u8 48), .lit (.int .u8 27), .lit (.int .u8 60), .lit (.int .u8 41), .lit (.int .u8 37), .lit (.int .u8 16), .lit (.int .u8 46), .lit (.int .u8 35), .lit (.int .u8 44), .lit (.int .u8 21), .lit (.int .u8 52), .lit (.int .u8 32), .lit (.int .u8 23), .lit (.int .u8 11), .lit (.int .u8 54), .lit (.int .u8 26), .lit (.int .u8 40), .lit (.int .u8 15), .lit (.int .u8 34), .lit (.int .u8 20), .lit (.int .u8 31), .lit (.int .u8 10), .lit (.int .u8 25), .lit (.int .u8 14), .lit (.int .u8 19), .lit (.int .u8 9), .lit (.int .u8 13), .lit (.int .u8 8), .lit (.int .u8 7), .lit (.int .u8 6)]
def laid_sentinel_cube_having {H : Type} : DataW H := .agg [.lit (.int .u64 12297829382473034410), .lit (.int .u64 14757395258967641292), .lit (.int .u64 17361641481138401520), .lit (.int .u64 18374966859414961920), .lit (.int .u64 18446462603027742720), .lit (.int .u64 18446744069414584320)]

/-- 'sentinellaw01.BitsetMatches': WHATEVER THE INPUT: true; the input reads as it did. -/
def bitsetMatchesSpec : ChangeSpec := { name := "bitsetMatches", fn := fun _ => fun
  | [d1, d2, d3] => { results := [.lit (.bool true)], args := [d1, d2, d3] }
  | _ => none }
def bitsetMatchesRow : OpenClaim := { program := "ytjjdhegkcilaiaadoor", sum := "5aeb4f5b8654981eba01907408878391cf801b0ef084c35f60640751550e9d80", func := "sentinel/sentinellaw01.BitsetMatches", spec := "bitsetMatches", unfollowed := true, recurses := true, named := ["math/bits.deBruijn64tab"], apart := false, laid := [("math/bits.deBruijn64tab", laid_math_bits_deBruijn64tab)] }
def BitsetMatchesSaid : Prop := bitsetMatchesRow.holds Tryd.pinned (OpenSpec.ofChange bitsetMatchesSpec)

/-- ITS FALSE NEIGHBOUR: 'it returns false'. Refute it at one input. -/
def bitsetMatchesWrong : ChangeSpec := { name := "bitsetMatches", fn := fun _ => fun
  | [d1, d2, d3] => { results := [.lit (.bool false)], args := [d1, d2, d3] }
  | _ => none }
def BitsetMatchesWrongFalsely : Prop := bitsetMatchesRow.holds Tryd.pinned (OpenSpec.ofChange bitsetMatchesWrong)

/-- 'sentinellaw02.CubeMatches': WHATEVER THE INPUT: true; the input reads as it did. -/
def cubeMatchesSpec : ChangeSpec := { name := "cubeMatches", fn := fun _ => fun
  | [d1, d2, d3] => { results := [.lit (.bool true)], args := [d1, d2, d3] }
  | _ => none }
def cubeMatchesRow : OpenClaim := { program := "ytjjdhegkcilaiaadoor", sum := "5aeb4f5b8654981eba01907408878391cf801b0ef084c35f60640751550e9d80", func := "sentinel/sentinellaw02.CubeMatches", spec := "cubeMatches", inPlace := ["internal/abi.NoEscape"], unfollowed := true, recurses := true, named := ["sentinel/cube.having"], apart := false, laid := [("sentinel/cube.having", laid_sentinel_cube_having)] }
def CubeMatchesSaid : Prop := cubeMatchesRow.holds Tryd.pinned (OpenSpec.ofChange cubeMatchesSpec)

/-- ITS FALSE NEIGHBOUR: 'it returns false'. Refute it at one input. -/
def cubeMatchesWrong : ChangeSpec := { name := "cubeMatches", fn := fun _ => fun
  | [d1, d2, d3] => { results := [.lit (.bool false)], args := [d1, d2, d3] }
  | _ => none }
def CubeMatchesWrongFalsely : Prop := cubeMatchesRow.holds Tryd.pinned (OpenSpec.ofChange cubeMatchesWrong)

/-- 'sentinellaw02.CubePairs': WHATEVER THE INPUT: true; the input reads as it did. -/
def cubePairsSpec : ChangeSpec := { name := "cubePairs", fn := fun _ => fun
  | [d1, d2] => { results := [.lit (.bool true)], args := [d1, d2] }
  | _ => none }
def cubePairsRow : OpenClaim := { program := "ytjjdhegkcilaiaadoor", sum := "5aeb4f5b8654981eba01907408878391cf801b0ef084c35f60640751550e9d80", func := "sentinel/sentinellaw02.CubePairs", spec := "cubePairs", inPlace := ["internal/abi.NoEscape"], unfollowed := true, recurses := true, named := ["sentinel/cube.having"], apart := false, laid := [("sentinel/cube.having", laid_sentinel_cube_having)] }
def CubePairsSaid : Prop := cubePairsRow.holds Tryd.pinned (OpenSpec.ofChange cubePairsSpec)

/-- ITS FALSE NEIGHBOUR: 'it returns false'. Refute it at one input. -/
def cubePairsWrong : ChangeSpec := { name := "cubePairs", fn := fun _ => fun
  | [d1, d2] => { results := [.lit (.bool false)], args := [d1, d2] }
  | _ => none }
def CubePairsWrongFalsely : Prop := cubePairsRow.holds Tryd.pinned (OpenSpec.ofChange cubePairsWrong)

/-- 'sentinellaw02.CubeCover': WHATEVER THE INPUT: true; the input reads as it did. -/
def cubeCoverSpec : ChangeSpec := { name := "cubeCover", fn := fun _ => fun
  | [d1, d2] => { results := [.lit (.bool true)], args := [d1, d2] }
  | _ => none }
def cubeCoverRow : OpenClaim := { program := "ytjjdhegkcilaiaadoor", sum := "5aeb4f5b8654981eba01907408878391cf801b0ef084c35f60640751550e9d80", func := "sentinel/sentinellaw02.CubeCover", spec := "cubeCover", inPlace := ["internal/abi.NoEscape"], unfollowed := true, recurses := true, named := ["sentinel/cube.having"], apart := false, laid := [("sentinel/cube.having", laid_sentinel_cube_having)] }
def CubeCoverSaid : Prop := cubeCoverRow.holds Tryd.pinned (OpenSpec.ofChange cubeCoverSpec)

/-- ITS FALSE NEIGHBOUR: 'it returns false'. Refute it at one input. -/
def cubeCoverWrong : ChangeSpec := { name := "cubeCover", fn := fun _ => fun
  | [d1, d2] => { results := [.lit (.bool false)], args := [d1, d2] }
  | _ => none }
def CubeCoverWrongFalsely : Prop := cubeCoverRow.holds Tryd.pinned (OpenSpec.ofChange cubeCoverWrong)

/-- 'sentinellaw02.CubeParse': WHATEVER THE INPUT: true; the input reads as it did. -/
def cubeParseSpec : ChangeSpec := { name := "cubeParse", fn := fun _ => fun
  | [d1, d2] => { results := [.lit (.bool true)], args := [d1, d2] }
  | _ => none }
def cubeParseRow : OpenClaim := { program := "ytjjdhegkcilaiaadoor", sum := "5aeb4f5b8654981eba01907408878391cf801b0ef084c35f60640751550e9d80", func := "sentinel/sentinellaw02.CubeParse", spec := "cubeParse", inPlace := ["internal/abi.NoEscape"], unfollowed := true, recurses := true, named := ["sentinel/cube.having"], apart := false, laid := [("sentinel/cube.having", laid_sentinel_cube_having)] }
def CubeParseSaid : Prop := cubeParseRow.holds Tryd.pinned (OpenSpec.ofChange cubeParseSpec)

/-- ITS FALSE NEIGHBOUR: 'it returns false'. Refute it at one input. -/
def cubeParseWrong : ChangeSpec := { name := "cubeParse", fn := fun _ => fun
  | [d1, d2] => { results := [.lit (.bool false)], args := [d1, d2] }
  | _ => none }
def CubeParseWrongFalsely : Prop := cubeParseRow.holds Tryd.pinned (OpenSpec.ofChange cubeParseWrong)

/-- 'sentinellaw02.CubeExamples': WHATEVER THE INPUT: true; the input reads as it did. -/
def cubeExamplesSpec : ChangeSpec := { name := "cubeExamples", fn := fun _ => fun
  | [] => { results := [.lit (.bool true)], args := [] }
  | _ => none }
def cubeExamplesRow : OpenClaim := { program := "ytjjdhegkcilaiaadoor", sum := "5aeb4f5b8654981eba01907408878391cf801b0ef084c35f60640751550e9d80", func := "sentinel/sentinellaw02.CubeExamples", spec := "cubeExamples", inPlace := ["internal/abi.NoEscape"], unfollowed := true, recurses := true, named := ["sentinel/cube.having"], apart := false, laid := [("sentinel/cube.having", laid_sentinel_cube_having)] }
def CubeExamplesSaid : Prop := cubeExamplesRow.holds Tryd.pinned (OpenSpec.ofChange cubeExamplesSpec)

/-- ITS FALSE NEIGHBOUR: 'it returns false'. Refute it at one input. -/
def cubeExamplesWrong : ChangeSpec := { name := "cubeExamples", fn := fun _ => fun
  | [] => { results := [.lit (.bool false)], args := [] }
  | _ => none }
def CubeExamplesWrongFalsely : Prop := cubeExamplesRow.holds Tryd.pinned (OpenSpec.ofChange cubeExamplesWrong)

/-- 'sentinellaw02.CubeMeets': WHATEVER THE INPUT: true; the input reads as it did. -/
def cubeMeetsSpec : ChangeSpec := { name := "cubeMeets", fn := fun _ => fun
  | [d1, d2, d3] => { results := [.lit (.bool true)], args := [d1, d2, d3] }
  | _ => none }
def cubeMeetsRow : OpenClaim := { program := "ytjjdhegkcilaiaadoor", sum := "5aeb4f5b8654981eba01907408878391cf801b0ef084c35f60640751550e9d80", func := "sentinel/sentinellaw02.CubeMeets", spec := "cubeMeets", inPlace := ["internal/abi.NoEscape"], unfollowed := true, recurses := true, named := ["sentinel/cube.having"], apart := false, laid := [("sentinel/cube.having", laid_sentinel_cube_having)] }
def CubeMeetsSaid : Prop := cubeMeetsRow.holds Tryd.pinned (OpenSpec.ofChange cubeMeetsSpec)

/-- ITS FALSE NEIGHBOUR: 'it returns false'. Refute it at one input. -/
def cubeMeetsWrong : ChangeSpec := { name := "cubeMeets", fn := fun _ => fun
  | [d1, d2, d3] => { results := [.lit (.bool false)], args := [d1, d2, d3] }
  | _ => none }
def CubeMeetsWrongFalsely : Prop := cubeMeetsRow.holds Tryd.pinned (OpenSpec.ofChange cubeMeetsWrong)

/-- 'sentinellaw02.CubeContains': WHATEVER THE INPUT: true; the input reads as it did. -/
def cubeContainsSpec : ChangeSpec := { name := "cubeContains", fn := fun _ => fun
  | [d1, d2, d3] => { results := [.lit (.bool true)], args := [d1, d2, d3] }
  | _ => none }
def cubeContainsRow : OpenClaim := { program := "ytjjdhegkcilaiaadoor", sum := "5aeb4f5b8654981eba01907408878391cf801b0ef084c35f60640751550e9d80", func := "sentinel/sentinellaw02.CubeContains", spec := "cubeContains", inPlace := ["internal/abi.NoEscape"], unfollowed := true, recurses := true, named := ["sentinel/cube.having"], apart := false, laid := [("sentinel/cube.having", laid_sentinel_cube_having)] }
def CubeContainsSaid : Prop := cubeContainsRow.holds Tryd.pinned (OpenSpec.ofChange cubeContainsSpec)

/-- ITS FALSE NEIGHBOUR: 'it returns false'. Refute it at one input. -/
def cubeContainsWrong : ChangeSpec := { name := "cubeContains", fn := fun _ => fun
  | [d1, d2, d3] => { results := [.lit (.bool false)], args := [d1, d2, d3] }
  | _ => none }
def CubeContainsWrongFalsely : Prop := cubeContainsRow.holds Tryd.pinned (OpenSpec.ofChange cubeContainsWrong)

/-- 'sentinellaw02.CubePrimes': WHATEVER THE INPUT: true; the input reads as it did. -/
def cubePrimesSpec : ChangeSpec := { name := "cubePrimes", fn := fun _ => fun
  | [d1, d2] => { results := [.lit (.bool true)], args := [d1, d2] }
  | _ => none }
def cubePrimesRow : OpenClaim := { program := "ytjjdhegkcilaiaadoor", sum := "5aeb4f5b8654981eba01907408878391cf801b0ef084c35f60640751550e9d80", func := "sentinel/sentinellaw02.CubePrimes", spec := "cubePrimes", inPlace := ["internal/abi.NoEscape"], unfollowed := true, recurses := true, named := ["sentinel/cube.having"], apart := false, laid := [("sentinel/cube.having", laid_sentinel_cube_having)] }
def CubePrimesSaid : Prop := cubePrimesRow.holds Tryd.pinned (OpenSpec.ofChange cubePrimesSpec)

/-- ITS FALSE NEIGHBOUR: 'it returns false'. Refute it at one input. -/
def cubePrimesWrong : ChangeSpec := { name := "cubePrimes", fn := fun _ => fun
  | [d1, d2] => { results := [.lit (.bool false)], args := [d1, d2] }
  | _ => none }
def CubePrimesWrongFalsely : Prop := cubePrimesRow.holds Tryd.pinned (OpenSpec.ofChange cubePrimesWrong)

/-- 'sentinellaw02.CubeRoundTrip': WHATEVER THE INPUT: true; the input reads as it did. -/
def cubeRoundTripSpec : ChangeSpec := { name := "cubeRoundTrip", fn := fun _ => fun
  | [d1, d2, d3] => { results := [.lit (.bool true)], args := [d1, d2, d3] }
  | _ => none }
def cubeRoundTripRow : OpenClaim := { program := "ytjjdhegkcilaiaadoor", sum := "5aeb4f5b8654981eba01907408878391cf801b0ef084c35f60640751550e9d80", func := "sentinel/sentinellaw02.CubeRoundTrip", spec := "cubeRoundTrip", inPlace := ["internal/abi.NoEscape"], unfollowed := true, recurses := true, named := ["sentinel/cube.having"], apart := false, laid := [("sentinel/cube.having", laid_sentinel_cube_having)] }
def CubeRoundTripSaid : Prop := cubeRoundTripRow.holds Tryd.pinned (OpenSpec.ofChange cubeRoundTripSpec)

/-- ITS FALSE NEIGHBOUR: 'it returns false'. Refute it at one input. -/
def cubeRoundTripWrong : ChangeSpec := { name := "cubeRoundTrip", fn := fun _ => fun
  | [d1, d2, d3] => { results := [.lit (.bool false)], args := [d1, d2, d3] }
  | _ => none }
def CubeRoundTripWrongFalsely : Prop := cubeRoundTripRow.holds Tryd.pinned (OpenSpec.ofChange cubeRoundTripWrong)

/- THE SECOND FORM. 'bulk': how many values and letters a reading holds, each counted each time it is reached (what is shared counts as often as it is met; a slice's spare places count too). A statement '..UptoSaid' is the law's where the arguments, and the package variables that the reading takes, are together of bulk at most 1048576: NARROWER than '..Said'. Prove '..Said' where nothing that the law and all that it calls make is longer than what came in: it says more and counts as full. Else prove '..UptoSaid'. A law counts once. -/
mutual
def uptoBulk {H : Type} : DataW H → Nat
  | .lit (.string bytes) => bytes.length + 1
  | .lit _ => 1
  | .nil => 1
  | .ptr d => uptoBulk d + 1
  | .slice elems spare => uptoBulkAll elems + uptoBulkAll spare + 1
  | .agg parts => uptoBulkAll parts + 1
  | .iface _ d => uptoBulk d + 1
  | .map entries => uptoBulkEntries entries + 1
  | .held _ => 1
def uptoBulkAll {H : Type} : List (DataW H) → Nat
  | [] => 0
  | d :: r => uptoBulk d + uptoBulkAll r
def uptoBulkEntries {H : Type} : List (Lit × DataW H) → Nat
  | [] => 0
  | x :: r => uptoBulkEntry x + uptoBulkEntries r
def uptoBulkEntry {H : Type} : Lit × DataW H → Nat
  | (.string bytes, d) => bytes.length + uptoBulk d + 1
  | (_, d) => uptoBulk d + 1
 end
def uptoSmall : (H : Type) → List (DataW H) → Bool := fun _ ds => decide (uptoBulkAll ds ≤ 1048576)
def OpenSpec.upto (s : _root_.Go.ChangeSpec) : _root_.Go.OpenSpec := { _root_.Go.OpenSpec.ofChange s with cond := some uptoSmall }

/-- 'sentinellaw01.BitsetMatches', WHERE WHAT IT READS IS OF BULK AT MOST 1048576: true; the input reads as it did. -/
def bitsetMatchesUptoRow : OpenClaim := { program := "ytjjdhegkcilaiaadoor", sum := "5aeb4f5b8654981eba01907408878391cf801b0ef084c35f60640751550e9d80", func := "sentinel/sentinellaw01.BitsetMatches", spec := "bitsetMatches", unfollowed := true, recurses := true, named := ["math/bits.deBruijn64tab"], apart := false, laid := [("math/bits.deBruijn64tab", laid_math_bits_deBruijn64tab)], narrowed := true }
def BitsetMatchesUptoSaid : Prop := bitsetMatchesUptoRow.holds Tryd.pinned (OpenSpec.upto bitsetMatchesSpec)

/-- 'sentinellaw02.CubeMatches', WHERE WHAT IT READS IS OF BULK AT MOST 1048576: true; the input reads as it did. -/
def cubeMatchesUptoRow : OpenClaim := { program := "ytjjdhegkcilaiaadoor", sum := "5aeb4f5b8654981eba01907408878391cf801b0ef084c35f60640751550e9d80", func := "sentinel/sentinellaw02.CubeMatches", spec := "cubeMatches", inPlace := ["internal/abi.NoEscape"], unfollowed := true, recurses := true, named := ["sentinel/cube.having"], apart := false, laid := [("sentinel/cube.having", laid_sentinel_cube_having)], narrowed := true }
def CubeMatchesUptoSaid : Prop := cubeMatchesUptoRow.holds Tryd.pinned (OpenSpec.upto cubeMatchesSpec)

/-- 'sentinellaw02.CubePairs', WHERE WHAT IT READS IS OF BULK AT MOST 1048576: true; the input reads as it did. -/
def cubePairsUptoRow : OpenClaim := { program := "ytjjdhegkcilaiaadoor", sum := "5aeb4f5b8654981eba01907408878391cf801b0ef084c35f60640751550e9d80", func := "sentinel/sentinellaw02.CubePairs", spec := "cubePairs", inPlace := ["internal/abi.NoEscape"], unfollowed := true, recurses := true, named := ["sentinel/cube.having"], apart := false, laid := [("sentinel/cube.having", laid_sentinel_cube_having)], narrowed := true }
def CubePairsUptoSaid : Prop := cubePairsUptoRow.holds Tryd.pinned (OpenSpec.upto cubePairsSpec)

/-- 'sentinellaw02.CubeCover', WHERE WHAT IT READS IS OF BULK AT MOST 1048576: true; the input reads as it did. -/
def cubeCoverUptoRow : OpenClaim := { program := "ytjjdhegkcilaiaadoor", sum := "5aeb4f5b8654981eba01907408878391cf801b0ef084c35f60640751550e9d80", func := "sentinel/sentinellaw02.CubeCover", spec := "cubeCover", inPlace := ["internal/abi.NoEscape"], unfollowed := true, recurses := true, named := ["sentinel/cube.having"], apart := false, laid := [("sentinel/cube.having", laid_sentinel_cube_having)], narrowed := true }
def CubeCoverUptoSaid : Prop := cubeCoverUptoRow.holds Tryd.pinned (OpenSpec.upto cubeCoverSpec)

/-- 'sentinellaw02.CubeParse', WHERE WHAT IT READS IS OF BULK AT MOST 1048576: true; the input reads as it did. -/
def cubeParseUptoRow : OpenClaim := { program := "ytjjdhegkcilaiaadoor", sum := "5aeb4f5b8654981eba01907408878391cf801b0ef084c35f60640751550e9d80", func := "sentinel/sentinellaw02.CubeParse", spec := "cubeParse", inPlace := ["internal/abi.NoEscape"], unfollowed := true, recurses := true, named := ["sentinel/cube.having"], apart := false, laid := [("sentinel/cube.having", laid_sentinel_cube_having)], narrowed := true }
def CubeParseUptoSaid : Prop := cubeParseUptoRow.holds Tryd.pinned (OpenSpec.upto cubeParseSpec)

/-- 'sentinellaw02.CubeExamples', WHERE WHAT IT READS IS OF BULK AT MOST 1048576: true; the input reads as it did. -/
def cubeExamplesUptoRow : OpenClaim := { program := "ytjjdhegkcilaiaadoor", sum := "5aeb4f5b8654981eba01907408878391cf801b0ef084c35f60640751550e9d80", func := "sentinel/sentinellaw02.CubeExamples", spec := "cubeExamples", inPlace := ["internal/abi.NoEscape"], unfollowed := true, recurses := true, named := ["sentinel/cube.having"], apart := false, laid := [("sentinel/cube.having", laid_sentinel_cube_having)], narrowed := true }
def CubeExamplesUptoSaid : Prop := cubeExamplesUptoRow.holds Tryd.pinned (OpenSpec.upto cubeExamplesSpec)

/-- 'sentinellaw02.CubeMeets', WHERE WHAT IT READS IS OF BULK AT MOST 1048576: true; the input reads as it did. -/
def cubeMeetsUptoRow : OpenClaim := { program := "ytjjdhegkcilaiaadoor", sum := "5aeb4f5b8654981eba01907408878391cf801b0ef084c35f60640751550e9d80", func := "sentinel/sentinellaw02.CubeMeets", spec := "cubeMeets", inPlace := ["internal/abi.NoEscape"], unfollowed := true, recurses := true, named := ["sentinel/cube.having"], apart := false, laid := [("sentinel/cube.having", laid_sentinel_cube_having)], narrowed := true }
def CubeMeetsUptoSaid : Prop := cubeMeetsUptoRow.holds Tryd.pinned (OpenSpec.upto cubeMeetsSpec)

/-- 'sentinellaw02.CubeContains', WHERE WHAT IT READS IS OF BULK AT MOST 1048576: true; the input reads as it did. -/
def cubeContainsUptoRow : OpenClaim := { program := "ytjjdhegkcilaiaadoor", sum := "5aeb4f5b8654981eba01907408878391cf801b0ef084c35f60640751550e9d80", func := "sentinel/sentinellaw02.CubeContains", spec := "cubeContains", inPlace := ["internal/abi.NoEscape"], unfollowed := true, recurses := true, named := ["sentinel/cube.having"], apart := false, laid := [("sentinel/cube.having", laid_sentinel_cube_having)], narrowed := true }
def CubeContainsUptoSaid : Prop := cubeContainsUptoRow.holds Tryd.pinned (OpenSpec.upto cubeContainsSpec)

/-- 'sentinellaw02.CubePrimes', WHERE WHAT IT READS IS OF BULK AT MOST 1048576: true; the input reads as it did. -/
def cubePrimesUptoRow : OpenClaim := { program := "ytjjdhegkcilaiaadoor", sum := "5aeb4f5b8654981eba01907408878391cf801b0ef084c35f60640751550e9d80", func := "sentinel/sentinellaw02.CubePrimes", spec := "cubePrimes", inPlace := ["internal/abi.NoEscape"], unfollowed := true, recurses := true, named := ["sentinel/cube.having"], apart := false, laid := [("sentinel/cube.having", laid_sentinel_cube_having)], narrowed := true }
def CubePrimesUptoSaid : Prop := cubePrimesUptoRow.holds Tryd.pinned (OpenSpec.upto cubePrimesSpec)

/-- 'sentinellaw02.CubeRoundTrip', WHERE WHAT IT READS IS OF BULK AT MOST 1048576: true; the input reads as it did. -/
def cubeRoundTripUptoRow : OpenClaim := { program := "ytjjdhegkcilaiaadoor", sum := "5aeb4f5b8654981eba01907408878391cf801b0ef084c35f60640751550e9d80", func := "sentinel/sentinellaw02.CubeRoundTrip", spec := "cubeRoundTrip", inPlace := ["internal/abi.NoEscape"], unfollowed := true, recurses := true, named := ["sentinel/cube.having"], apart := false, laid := [("sentinel/cube.having", laid_sentinel_cube_having)], narrowed := true }
def CubeRoundTripUptoSaid : Prop := cubeRoundTripUptoRow.holds Tryd.pinned (OpenSpec.upto cubeRoundTripSpec)

end Rows
end Go.Proofs.YtjjdhegkcilaiaaDoor
