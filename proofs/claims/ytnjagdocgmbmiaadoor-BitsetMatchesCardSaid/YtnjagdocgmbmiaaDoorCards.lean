/-
  DERIVED. GIVEN WITH THE SEED: THE CARDS: each row of YtnjagdocgmbmiaaDoorRows.lean that lists a variable, with what it lists TIED to the program's text (the seventh form; the later family's looks); each row that meets fmt, with fmt's text TOLD by the authors' own Lean function (tested against real Go, not proved from fmt's source: count such statements apart). THE CARD IS WHAT COUNTS. Prove the row's statement (the work); the ties are given (YtnjagdocgmbmiaaDoorTie.lean); close each card by the builder's one call (the guide's Derived/Test/ToyasCard.lean, 'card_holds'). Laid BY PROGRAM, IN A SANDBOX (cutbox-door.mjs). By AI agents, Wed Nov 11 2026. No macro, syntax, notation, axiom, sorry.
-/
import Derived.Test.YtnjagdocgmbmiaaDoorRows
import GoSem.ClaimSeven
namespace Go.Proofs.YtnjagdocgmbmiaaDoor
namespace Rows

/-- THE TIED CARD OF 'sentinellaw01.BitsetMatches'. -/
def bitsetMatchesCard : Claim7 := { stood := { row := bitsetMatchesRow, standIns := [], harness := (true, "81654b33fc74b46f0bdef265e2fe45626bb7b0de66d4b1094a52c0a5ab757e5b"), looks := false }, kinds := [], alts := [], laidByText := true, laidKinds := [.data], laidTests := true, laidLooks := .later }
def BitsetMatchesCardSaid : Prop := Claim7.holds Tryd.pinned (.plain (OpenSpec.ofChange bitsetMatchesSpec)) bitsetMatchesCard

/-- THE TIED CARD OF 'sentinellaw01.BitsetOperations'. -/
def bitsetOperationsCard : Claim7 := { stood := { row := bitsetOperationsRow, standIns := [], harness := (true, "81654b33fc74b46f0bdef265e2fe45626bb7b0de66d4b1094a52c0a5ab757e5b"), looks := false }, kinds := [], alts := [], laidByText := true, laidKinds := [.data], laidTests := true, laidLooks := .later }
def BitsetOperationsCardSaid : Prop := Claim7.holds Tryd.pinned (.plain (OpenSpec.ofChange bitsetOperationsSpec)) bitsetOperationsCard

/-- THE TIED CARD OF 'sentinellaw01.BitsetExamples'. -/
def bitsetExamplesCard : Claim7 := { stood := { row := bitsetExamplesRow, standIns := [], harness := (true, "81654b33fc74b46f0bdef265e2fe45626bb7b0de66d4b1094a52c0a5ab757e5b"), looks := false }, kinds := [], alts := [], laidByText := true, laidKinds := [.data], laidTests := true, laidLooks := .later }
def BitsetExamplesCardSaid : Prop := Claim7.holds Tryd.pinned (.plain (OpenSpec.ofChange bitsetExamplesSpec)) bitsetExamplesCard

/-- THE TIED CARD OF 'sentinellaw01.BitsetAlgebra'. -/
def bitsetAlgebraCard : Claim7 := { stood := { row := bitsetAlgebraRow, standIns := [], harness := (true, "81654b33fc74b46f0bdef265e2fe45626bb7b0de66d4b1094a52c0a5ab757e5b"), looks := false }, kinds := [], alts := [], laidByText := true, laidKinds := [.data], laidTests := true, laidLooks := .later }
def BitsetAlgebraCardSaid : Prop := Claim7.holds Tryd.pinned (.plain (OpenSpec.ofChange bitsetAlgebraSpec)) bitsetAlgebraCard

/-- THE TIED CARD OF 'sentinellaw01.BitsetCounts'. -/
def bitsetCountsCard : Claim7 := { stood := { row := bitsetCountsRow, standIns := [], harness := (true, "81654b33fc74b46f0bdef265e2fe45626bb7b0de66d4b1094a52c0a5ab757e5b"), looks := false }, kinds := [], alts := [], laidByText := true, laidKinds := [.data], laidTests := true, laidLooks := .later }
def BitsetCountsCardSaid : Prop := Claim7.holds Tryd.pinned (.plain (OpenSpec.ofChange bitsetCountsSpec)) bitsetCountsCard

/-- THE TIED CARD OF 'sentinellaw01.BitsetLists'. -/
def bitsetListsCard : Claim7 := { stood := { row := bitsetListsRow, standIns := [], harness := (true, "81654b33fc74b46f0bdef265e2fe45626bb7b0de66d4b1094a52c0a5ab757e5b"), looks := false }, kinds := [], alts := [], laidByText := true, laidKinds := [.data], laidTests := true, laidLooks := .later }
def BitsetListsCardSaid : Prop := Claim7.holds Tryd.pinned (.plain (OpenSpec.ofChange bitsetListsSpec)) bitsetListsCard

/-- THE TIED CARD OF 'sentinellaw01.BitsetSingle'. -/
def bitsetSingleCard : Claim7 := { stood := { row := bitsetSingleRow, standIns := [], harness := (true, "81654b33fc74b46f0bdef265e2fe45626bb7b0de66d4b1094a52c0a5ab757e5b"), looks := false }, kinds := [], alts := [], laidByText := true, laidKinds := [.data], laidTests := true, laidLooks := .later }
def BitsetSingleCardSaid : Prop := Claim7.holds Tryd.pinned (.plain (OpenSpec.ofChange bitsetSingleSpec)) bitsetSingleCard

/-- THE TIED CARD OF 'sentinellaw01.BitsetOrder'. -/
def bitsetOrderCard : Claim7 := { stood := { row := bitsetOrderRow, standIns := [], harness := (true, "81654b33fc74b46f0bdef265e2fe45626bb7b0de66d4b1094a52c0a5ab757e5b"), looks := false }, kinds := [], alts := [], laidByText := true, laidKinds := [.data], laidTests := true, laidLooks := .later }
def BitsetOrderCardSaid : Prop := Claim7.holds Tryd.pinned (.plain (OpenSpec.ofChange bitsetOrderSpec)) bitsetOrderCard

/-- THE SECOND FORM's CARD OF 'sentinellaw01.BitsetMatches'. -/
def bitsetMatchesUptoCard : Claim7 := { stood := { row := bitsetMatchesUptoRow, standIns := [], harness := (true, "81654b33fc74b46f0bdef265e2fe45626bb7b0de66d4b1094a52c0a5ab757e5b"), looks := false }, kinds := [], alts := [], laidByText := true, laidKinds := [.data], laidTests := true, laidLooks := .later }
def BitsetMatchesUptoCardSaid : Prop := Claim7.holds Tryd.pinned (.plain (OpenSpec.upto bitsetMatchesSpec)) bitsetMatchesUptoCard

/-- THE SECOND FORM's CARD OF 'sentinellaw01.BitsetOperations'. -/
def bitsetOperationsUptoCard : Claim7 := { stood := { row := bitsetOperationsUptoRow, standIns := [], harness := (true, "81654b33fc74b46f0bdef265e2fe45626bb7b0de66d4b1094a52c0a5ab757e5b"), looks := false }, kinds := [], alts := [], laidByText := true, laidKinds := [.data], laidTests := true, laidLooks := .later }
def BitsetOperationsUptoCardSaid : Prop := Claim7.holds Tryd.pinned (.plain (OpenSpec.upto bitsetOperationsSpec)) bitsetOperationsUptoCard

/-- THE SECOND FORM's CARD OF 'sentinellaw01.BitsetExamples'. -/
def bitsetExamplesUptoCard : Claim7 := { stood := { row := bitsetExamplesUptoRow, standIns := [], harness := (true, "81654b33fc74b46f0bdef265e2fe45626bb7b0de66d4b1094a52c0a5ab757e5b"), looks := false }, kinds := [], alts := [], laidByText := true, laidKinds := [.data], laidTests := true, laidLooks := .later }
def BitsetExamplesUptoCardSaid : Prop := Claim7.holds Tryd.pinned (.plain (OpenSpec.upto bitsetExamplesSpec)) bitsetExamplesUptoCard

/-- THE SECOND FORM's CARD OF 'sentinellaw01.BitsetAlgebra'. -/
def bitsetAlgebraUptoCard : Claim7 := { stood := { row := bitsetAlgebraUptoRow, standIns := [], harness := (true, "81654b33fc74b46f0bdef265e2fe45626bb7b0de66d4b1094a52c0a5ab757e5b"), looks := false }, kinds := [], alts := [], laidByText := true, laidKinds := [.data], laidTests := true, laidLooks := .later }
def BitsetAlgebraUptoCardSaid : Prop := Claim7.holds Tryd.pinned (.plain (OpenSpec.upto bitsetAlgebraSpec)) bitsetAlgebraUptoCard

/-- THE SECOND FORM's CARD OF 'sentinellaw01.BitsetCounts'. -/
def bitsetCountsUptoCard : Claim7 := { stood := { row := bitsetCountsUptoRow, standIns := [], harness := (true, "81654b33fc74b46f0bdef265e2fe45626bb7b0de66d4b1094a52c0a5ab757e5b"), looks := false }, kinds := [], alts := [], laidByText := true, laidKinds := [.data], laidTests := true, laidLooks := .later }
def BitsetCountsUptoCardSaid : Prop := Claim7.holds Tryd.pinned (.plain (OpenSpec.upto bitsetCountsSpec)) bitsetCountsUptoCard

/-- THE SECOND FORM's CARD OF 'sentinellaw01.BitsetLists'. -/
def bitsetListsUptoCard : Claim7 := { stood := { row := bitsetListsUptoRow, standIns := [], harness := (true, "81654b33fc74b46f0bdef265e2fe45626bb7b0de66d4b1094a52c0a5ab757e5b"), looks := false }, kinds := [], alts := [], laidByText := true, laidKinds := [.data], laidTests := true, laidLooks := .later }
def BitsetListsUptoCardSaid : Prop := Claim7.holds Tryd.pinned (.plain (OpenSpec.upto bitsetListsSpec)) bitsetListsUptoCard

/-- THE SECOND FORM's CARD OF 'sentinellaw01.BitsetSingle'. -/
def bitsetSingleUptoCard : Claim7 := { stood := { row := bitsetSingleUptoRow, standIns := [], harness := (true, "81654b33fc74b46f0bdef265e2fe45626bb7b0de66d4b1094a52c0a5ab757e5b"), looks := false }, kinds := [], alts := [], laidByText := true, laidKinds := [.data], laidTests := true, laidLooks := .later }
def BitsetSingleUptoCardSaid : Prop := Claim7.holds Tryd.pinned (.plain (OpenSpec.upto bitsetSingleSpec)) bitsetSingleUptoCard

/-- THE SECOND FORM's CARD OF 'sentinellaw01.BitsetOrder'. -/
def bitsetOrderUptoCard : Claim7 := { stood := { row := bitsetOrderUptoRow, standIns := [], harness := (true, "81654b33fc74b46f0bdef265e2fe45626bb7b0de66d4b1094a52c0a5ab757e5b"), looks := false }, kinds := [], alts := [], laidByText := true, laidKinds := [.data], laidTests := true, laidLooks := .later }
def BitsetOrderUptoCardSaid : Prop := Claim7.holds Tryd.pinned (.plain (OpenSpec.upto bitsetOrderSpec)) bitsetOrderUptoCard
end Rows
end Go.Proofs.YtnjagdocgmbmiaaDoor
