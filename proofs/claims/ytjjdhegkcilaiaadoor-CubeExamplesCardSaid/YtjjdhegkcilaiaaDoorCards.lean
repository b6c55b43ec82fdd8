/-
  DERIVED. GIVEN WITH THE SEED: THE CARDS: each row of YtjjdhegkcilaiaaDoorRows.lean that lists a variable, with what it lists TIED to the program's text (the seventh form; the later family's looks); each row that meets fmt, with fmt's text TOLD by the authors' own Lean function (tested against real Go, not proved from fmt's source: count such statements apart). THE CARD IS WHAT COUNTS. Prove the row's statement (the work); the ties are given (YtjjdhegkcilaiaaDoorTie.lean); close each card by the builder's one call (the guide's Derived/Test/ToyasCard.lean, 'card_holds'). Laid BY PROGRAM, IN A SANDBOX (cutbox-door.mjs). By AI agents, Wed Nov 11 2026. No macro, syntax, notation, axiom, sorry.
-/
import Derived.Test.YtjjdhegkcilaiaaDoorRows
import GoSem.ClaimSeven
namespace Go.Proofs.YtjjdhegkcilaiaaDoor
namespace Rows

/-- THE TIED CARD OF 'sentinellaw01.BitsetMatches'. -/
def bitsetMatchesCard : Claim7 := { stood := { row := bitsetMatchesRow, standIns := [], harness := (true, "1bcf62673365e0e82f657c63412f2ef8fc3286a8bb627a9c91f2a6ad1f7dd5f6"), looks := false }, kinds := [], alts := [], laidByText := true, laidKinds := [.data], laidTests := true, laidLooks := .later }
def BitsetMatchesCardSaid : Prop := Claim7.holds Tryd.pinned (.plain (OpenSpec.ofChange bitsetMatchesSpec)) bitsetMatchesCard

/-- THE TIED CARD OF 'sentinellaw02.CubeMatches'. -/
def cubeMatchesCard : Claim7 := { stood := { row := cubeMatchesRow, standIns := [], harness := (true, "1bcf62673365e0e82f657c63412f2ef8fc3286a8bb627a9c91f2a6ad1f7dd5f6"), looks := false }, kinds := [], alts := [], laidByText := true, laidKinds := [.data], laidTests := true, laidLooks := .later }
def CubeMatchesCardSaid : Prop := Claim7.holds Tryd.pinned (.plain (OpenSpec.ofChange cubeMatchesSpec)) cubeMatchesCard

/-- THE TIED CARD OF 'sentinellaw02.CubePairs'. -/
def cubePairsCard : Claim7 := { stood := { row := cubePairsRow, standIns := [], harness := (true, "1bcf62673365e0e82f657c63412f2ef8fc3286a8bb627a9c91f2a6ad1f7dd5f6"), looks := false }, kinds := [], alts := [], laidByText := true, laidKinds := [.data], laidTests := true, laidLooks := .later }
def CubePairsCardSaid : Prop := Claim7.holds Tryd.pinned (.plain (OpenSpec.ofChange cubePairsSpec)) cubePairsCard

/-- THE TIED CARD OF 'sentinellaw02.CubeCover'. -/
def cubeCoverCard : Claim7 := { stood := { row := cubeCoverRow, standIns := [], harness := (true, "1bcf62673365e0e82f657c63412f2ef8fc3286a8bb627a9c91f2a6ad1f7dd5f6"), looks := false }, kinds := [], alts := [], laidByText := true, laidKinds := [.data], laidTests := true, laidLooks := .later }
def CubeCoverCardSaid : Prop := Claim7.holds Tryd.pinned (.plain (OpenSpec.ofChange cubeCoverSpec)) cubeCoverCard

/-- THE TIED CARD OF 'sentinellaw02.CubeParse'. -/
def cubeParseCard : Claim7 := { stood := { row := cubeParseRow, standIns := [], harness := (true, "1bcf62673365e0e82f657c63412f2ef8fc3286a8bb627a9c91f2a6ad1f7dd5f6"), looks := false }, kinds := [], alts := [], laidByText := true, laidKinds := [.data], laidTests := true, laidLooks := .later }
def CubeParseCardSaid : Prop := Claim7.holds Tryd.pinned (.plain (OpenSpec.ofChange cubeParseSpec)) cubeParseCard

/-- THE TIED CARD OF 'sentinellaw02.CubeExamples'. -/
def cubeExamplesCard : Claim7 := { stood := { row := cubeExamplesRow, standIns := [], harness := (true, "1bcf62673365e0e82f657c63412f2ef8fc3286a8bb627a9c91f2a6ad1f7dd5f6"), looks := false }, kinds := [], alts := [], laidByText := true, laidKinds := [.data], laidTests := true, laidLooks := .later }
def CubeExamplesCardSaid : Prop := Claim7.holds Tryd.pinned (.plain (OpenSpec.ofChange cubeExamplesSpec)) cubeExamplesCard

/-- THE TIED CARD OF 'sentinellaw02.CubeMeets'. -/
def cubeMeetsCard : Claim7 := { stood := { row := cubeMeetsRow, standIns := [], harness := (true, "1bcf62673365e0e82f657c63412f2ef8fc3286a8bb627a9c91f2a6ad1f7dd5f6"), looks := false }, kinds := [], alts := [], laidByText := true, laidKinds := [.data], laidTests := true, laidLooks := .later }
def CubeMeetsCardSaid : Prop := Claim7.holds Tryd.pinned (.plain (OpenSpec.ofChange cubeMeetsSpec)) cubeMeetsCard

/-- THE TIED CARD OF 'sentinellaw02.CubeContains'. -/
def cubeContainsCard : Claim7 := { stood := { row := cubeContainsRow, standIns := [], harness := (true, "1bcf62673365e0e82f657c63412f2ef8fc3286a8bb627a9c91f2a6ad1f7dd5f6"), looks := false }, kinds := [], alts := [], laidByText := true, laidKinds := [.data], laidTests := true, laidLooks := .later }
def CubeContainsCardSaid : Prop := Claim7.holds Tryd.pinned (.plain (OpenSpec.ofChange cubeContainsSpec)) cubeContainsCard

/-- THE TIED CARD OF 'sentinellaw02.CubePrimes'. -/
def cubePrimesCard : Claim7 := { stood := { row := cubePrimesRow, standIns := [], harness := (true, "1bcf62673365e0e82f657c63412f2ef8fc3286a8bb627a9c91f2a6ad1f7dd5f6"), looks := false }, kinds := [], alts := [], laidByText := true, laidKinds := [.data], laidTests := true, laidLooks := .later }
def CubePrimesCardSaid : Prop := Claim7.holds Tryd.pinned (.plain (OpenSpec.ofChange cubePrimesSpec)) cubePrimesCard

/-- THE TIED CARD OF 'sentinellaw02.CubeRoundTrip'. -/
def cubeRoundTripCard : Claim7 := { stood := { row := cubeRoundTripRow, standIns := [], harness := (true, "1bcf62673365e0e82f657c63412f2ef8fc3286a8bb627a9c91f2a6ad1f7dd5f6"), looks := false }, kinds := [], alts := [], laidByText := true, laidKinds := [.data], laidTests := true, laidLooks := .later }
def CubeRoundTripCardSaid : Prop := Claim7.holds Tryd.pinned (.plain (OpenSpec.ofChange cubeRoundTripSpec)) cubeRoundTripCard

/-- THE SECOND FORM's CARD OF 'sentinellaw01.BitsetMatches'. -/
def bitsetMatchesUptoCard : Claim7 := { stood := { row := bitsetMatchesUptoRow, standIns := [], harness := (true, "1bcf62673365e0e82f657c63412f2ef8fc3286a8bb627a9c91f2a6ad1f7dd5f6"), looks := false }, kinds := [], alts := [], laidByText := true, laidKinds := [.data], laidTests := true, laidLooks := .later }
def BitsetMatchesUptoCardSaid : Prop := Claim7.holds Tryd.pinned (.plain (OpenSpec.upto bitsetMatchesSpec)) bitsetMatchesUptoCard

/-- THE SECOND FORM's CARD OF 'sentinellaw02.CubeMatches'. -/
def cubeMatchesUptoCard : Claim7 := { stood := { row := cubeMatchesUptoRow, standIns := [], harness := (true, "1bcf62673365e0e82f657c63412f2ef8fc3286a8bb627a9c91f2a6ad1f7dd5f6"), looks := false }, kinds := [], alts := [], laidByText := true, laidKinds := [.data], laidTests := true, laidLooks := .later }
def CubeMatchesUptoCardSaid : Prop := Claim7.holds Tryd.pinned (.plain (OpenSpec.upto cubeMatchesSpec)) cubeMatchesUptoCard

/-- THE SECOND FORM's CARD OF 'sentinellaw02.CubePairs'. -/
def cubePairsUptoCard : Claim7 := { stood := { row := cubePairsUptoRow, standIns := [], harness := (true, "1bcf62673365e0e82f657c63412f2ef8fc3286a8bb627a9c91f2a6ad1f7dd5f6"), looks := false }, kinds := [], alts := [], laidByText := true, laidKinds := [.data], laidTests := true, laidLooks := .later }
def CubePairsUptoCardSaid : Prop := Claim7.holds Tryd.pinned (.plain (OpenSpec.upto cubePairsSpec)) cubePairsUptoCard

/-- THE SECOND FORM's CARD OF 'sentinellaw02.CubeCover'. -/
def cubeCoverUptoCard : Claim7 := { stood := { row := cubeCoverUptoRow, standIns := [], harness := (true, "1bcf62673365e0e82f657c63412f2ef8fc3286a8bb627a9c91f2a6ad1f7dd5f6"), looks := false }, kinds := [], alts := [], laidByText := true, laidKinds := [.data], laidTests := true, laidLooks := .later }
def CubeCoverUptoCardSaid : Prop := Claim7.holds Tryd.pinned (.plain (OpenSpec.upto cubeCoverSpec)) cubeCoverUptoCard

/-- THE SECOND FORM's CARD OF 'sentinellaw02.CubeParse'. -/
def cubeParseUptoCard : Claim7 := { stood := { row := cubeParseUptoRow, standIns := [], harness := (true, "1bcf62673365e0e82f657c63412f2ef8fc3286a8bb627a9c91f2a6ad1f7dd5f6"), looks := false }, kinds := [], alts := [], laidByText := true, laidKinds := [.data], laidTests := true, laidLooks := .later }
def CubeParseUptoCardSaid : Prop := Claim7.holds Tryd.pinned (.plain (OpenSpec.upto cubeParseSpec)) cubeParseUptoCard

/-- THE SECOND FORM's CARD OF 'sentinellaw02.CubeExamples'. -/
def cubeExamplesUptoCard : Claim7 := { stood := { row := cubeExamplesUptoRow, standIns := [], harness := (true, "1bcf62673365e0e82f657c63412f2ef8fc3286a8bb627a9c91f2a6ad1f7dd5f6"), looks := false }, kinds := [], alts := [], laidByText := true, laidKinds := [.data], laidTests := true, laidLooks := .later }
def CubeExamplesUptoCardSaid : Prop := Claim7.holds Tryd.pinned (.plain (OpenSpec.upto cubeExamplesSpec)) cubeExamplesUptoCard

/-- THE SECOND FORM's CARD OF 'sentinellaw02.CubeMeets'. -/
def cubeMeetsUptoCard : Claim7 := { stood := { row := cubeMeetsUptoRow, standIns := [], harness := (true, "1bcf62673365e0e82f657c63412f2ef8fc3286a8bb627a9c91f2a6ad1f7dd5f6"), looks := false }, kinds := [], alts := [], laidByText := true, laidKinds := [.data], laidTests := true, laidLooks := .later }
def CubeMeetsUptoCardSaid : Prop := Claim7.holds Tryd.pinned (.plain (OpenSpec.upto cubeMeetsSpec)) cubeMeetsUptoCard

/-- THE SECOND FORM's CARD OF 'sentinellaw02.CubeContains'. -/
def cubeContainsUptoCard : Claim7 := { stood := { row := cubeContainsUptoRow, standIns := [], harness := (true, "1bcf62673365e0e82f657c63412f2ef8fc3286a8bb627a9c91f2a6ad1f7dd5f6"), looks := false }, kinds := [], alts := [], laidByText := true, laidKinds := [.data], laidTests := true, laidLooks := .later }
def CubeContainsUptoCardSaid : Prop := Claim7.holds Tryd.pinned (.plain (OpenSpec.upto cubeContainsSpec)) cubeContainsUptoCard

/-- THE SECOND FORM's CARD OF 'sentinellaw02.CubePrimes'. -/
def cubePrimesUptoCard : Claim7 := { stood := { row := cubePrimesUptoRow, standIns := [], harness := (true, "1bcf62673365e0e82f657c63412f2ef8fc3286a8bb627a9c91f2a6ad1f7dd5f6"), looks := false }, kinds := [], alts := [], laidByText := true, laidKinds := [.data], laidTests := true, laidLooks := .later }
def CubePrimesUptoCardSaid : Prop := Claim7.holds Tryd.pinned (.plain (OpenSpec.upto cubePrimesSpec)) cubePrimesUptoCard

/-- THE SECOND FORM's CARD OF 'sentinellaw02.CubeRoundTrip'. -/
def cubeRoundTripUptoCard : Claim7 := { stood := { row := cubeRoundTripUptoRow, standIns := [], harness := (true, "1bcf62673365e0e82f657c63412f2ef8fc3286a8bb627a9c91f2a6ad1f7dd5f6"), looks := false }, kinds := [], alts := [], laidByText := true, laidKinds := [.data], laidTests := true, laidLooks := .later }
def CubeRoundTripUptoCardSaid : Prop := Claim7.holds Tryd.pinned (.plain (OpenSpec.upto cubeRoundTripSpec)) cubeRoundTripUptoCard
end Rows
end Go.Proofs.YtjjdhegkcilaiaaDoor
