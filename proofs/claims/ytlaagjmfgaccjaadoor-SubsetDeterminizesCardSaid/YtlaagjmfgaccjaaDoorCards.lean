/-
  DERIVED. GIVEN WITH THE SEED: THE CARDS: each row of YtlaagjmfgaccjaaDoorRows.lean that lists a variable, with what it lists TIED to the program's text (the seventh form; the later family's looks); each row that meets fmt, with fmt's text TOLD by the authors' own Lean function (tested against real Go, not proved from fmt's source: count such statements apart). THE CARD IS WHAT COUNTS. Prove the row's statement (the work); the ties are given (YtlaagjmfgaccjaaDoorTie.lean); close each card by the builder's one call (the guide's Derived/Test/ToyasCard.lean, 'card_holds'). Laid BY PROGRAM, IN A SANDBOX (cutbox-door.mjs). By AI agents, Wed Nov 11 2026. No macro, syntax, notation, axiom, sorry.
-/
import Derived.Test.YtlaagjmfgaccjaaDoorRows
import GoSem.ClaimSeven
namespace Go.Proofs.YtlaagjmfgaccjaaDoor
namespace Rows

/-- THE TIED CARD OF 'sentinellaw06.NfaExamples'. -/
def nfaExamplesCard : Claim7 := { stood := { row := nfaExamplesRow, standIns := [], harness := (true, "b8146089c02840ed8da23971a0d8cf0f54ffc3db32db18888b4f842f9489ebcd"), looks := false }, kinds := [], alts := [], laidByText := true, laidKinds := [.data], laidTests := true, laidLooks := .later }
def NfaExamplesCardSaid : Prop := Claim7.holds Tryd.pinned (.plain (OpenSpec.ofChange nfaExamplesSpec)) nfaExamplesCard

/-- THE TIED CARD OF 'sentinellaw06.NfaTrims'. -/
def nfaTrimsCard : Claim7 := { stood := { row := nfaTrimsRow, standIns := [], harness := (true, "b8146089c02840ed8da23971a0d8cf0f54ffc3db32db18888b4f842f9489ebcd"), looks := false }, kinds := [], alts := [], laidByText := true, laidKinds := [.data], laidTests := true, laidLooks := .later }
def NfaTrimsCardSaid : Prop := Claim7.holds Tryd.pinned (.plain (OpenSpec.ofChange nfaTrimsSpec)) nfaTrimsCard

/-- THE TIED CARD OF 'sentinellaw07.SubsetConverts'. -/
def subsetConvertsCard : Claim7 := { stood := { row := subsetConvertsRow, standIns := [], harness := (true, "b8146089c02840ed8da23971a0d8cf0f54ffc3db32db18888b4f842f9489ebcd"), looks := false }, kinds := [], alts := [], laidByText := true, laidKinds := [.data, .data, .data], laidTests := true, laidLooks := .later }
def SubsetConvertsCardSaid : Prop := Claim7.holds Tryd.pinned (.plain (OpenSpec.ofChange subsetConvertsSpec)) subsetConvertsCard

/-- THE TIED CARD OF 'sentinellaw07.SubsetDeterminizes'. -/
def subsetDeterminizesCard : Claim7 := { stood := { row := subsetDeterminizesRow, standIns := [], harness := (true, "b8146089c02840ed8da23971a0d8cf0f54ffc3db32db18888b4f842f9489ebcd"), looks := false }, kinds := [], alts := [], laidByText := true, laidKinds := [.data, .data, .data], laidTests := true, laidLooks := .later }
def SubsetDeterminizesCardSaid : Prop := Claim7.holds Tryd.pinned (.plain (OpenSpec.ofChange subsetDeterminizesSpec)) subsetDeterminizesCard

/-- THE TIED CARD OF 'sentinellaw07.SubsetExamples'. -/
def subsetExamplesCard : Claim7 := { stood := { row := subsetExamplesRow, standIns := [], harness := (true, "b8146089c02840ed8da23971a0d8cf0f54ffc3db32db18888b4f842f9489ebcd"), looks := false }, kinds := [], alts := [], laidByText := true, laidKinds := [.data, .data, .data], laidTests := true, laidLooks := .later }
def SubsetExamplesCardSaid : Prop := Claim7.holds Tryd.pinned (.plain (OpenSpec.ofChange subsetExamplesSpec)) subsetExamplesCard

/-- THE TIED CARD OF 'sentinellaw07.SubsetReturns'. -/
def subsetReturnsCard : Claim7 := { stood := { row := subsetReturnsRow, standIns := [], harness := (true, "b8146089c02840ed8da23971a0d8cf0f54ffc3db32db18888b4f842f9489ebcd"), looks := false }, kinds := [], alts := [], laidByText := true, laidKinds := [.data, .data, .data], laidTests := true, laidLooks := .later }
def SubsetReturnsCardSaid : Prop := Claim7.holds Tryd.pinned (.plain (OpenSpec.ofChange subsetReturnsSpec)) subsetReturnsCard

/-- THE SECOND FORM's CARD OF 'sentinellaw06.NfaExamples'. -/
def nfaExamplesUptoCard : Claim7 := { stood := { row := nfaExamplesUptoRow, standIns := [], harness := (true, "b8146089c02840ed8da23971a0d8cf0f54ffc3db32db18888b4f842f9489ebcd"), looks := false }, kinds := [], alts := [], laidByText := true, laidKinds := [.data], laidTests := true, laidLooks := .later }
def NfaExamplesUptoCardSaid : Prop := Claim7.holds Tryd.pinned (.plain (OpenSpec.upto nfaExamplesSpec)) nfaExamplesUptoCard

/-- THE SECOND FORM's CARD OF 'sentinellaw06.NfaTrims'. -/
def nfaTrimsUptoCard : Claim7 := { stood := { row := nfaTrimsUptoRow, standIns := [], harness := (true, "b8146089c02840ed8da23971a0d8cf0f54ffc3db32db18888b4f842f9489ebcd"), looks := false }, kinds := [], alts := [], laidByText := true, laidKinds := [.data], laidTests := true, laidLooks := .later }
def NfaTrimsUptoCardSaid : Prop := Claim7.holds Tryd.pinned (.plain (OpenSpec.upto nfaTrimsSpec)) nfaTrimsUptoCard

/-- THE SECOND FORM's CARD OF 'sentinellaw07.SubsetConverts'. -/
def subsetConvertsUptoCard : Claim7 := { stood := { row := subsetConvertsUptoRow, standIns := [], harness := (true, "b8146089c02840ed8da23971a0d8cf0f54ffc3db32db18888b4f842f9489ebcd"), looks := false }, kinds := [], alts := [], laidByText := true, laidKinds := [.data, .data, .data], laidTests := true, laidLooks := .later }
def SubsetConvertsUptoCardSaid : Prop := Claim7.holds Tryd.pinned (.plain (OpenSpec.upto subsetConvertsSpec)) subsetConvertsUptoCard

/-- THE SECOND FORM's CARD OF 'sentinellaw07.SubsetDeterminizes'. -/
def subsetDeterminizesUptoCard : Claim7 := { stood := { row := subsetDeterminizesUptoRow, standIns := [], harness := (true, "b8146089c02840ed8da23971a0d8cf0f54ffc3db32db18888b4f842f9489ebcd"), looks := false }, kinds := [], alts := [], laidByText := true, laidKinds := [.data, .data, .data], laidTests := true, laidLooks := .later }
def SubsetDeterminizesUptoCardSaid : Prop := Claim7.holds Tryd.pinned (.plain (OpenSpec.upto subsetDeterminizesSpec)) subsetDeterminizesUptoCard

/-- THE SECOND FORM's CARD OF 'sentinellaw07.SubsetExamples'. -/
def subsetExamplesUptoCard : Claim7 := { stood := { row := subsetExamplesUptoRow, standIns := [], harness := (true, "b8146089c02840ed8da23971a0d8cf0f54ffc3db32db18888b4f842f9489ebcd"), looks := false }, kinds := [], alts := [], laidByText := true, laidKinds := [.data, .data, .data], laidTests := true, laidLooks := .later }
def SubsetExamplesUptoCardSaid : Prop := Claim7.holds Tryd.pinned (.plain (OpenSpec.upto subsetExamplesSpec)) subsetExamplesUptoCard

/-- THE SECOND FORM's CARD OF 'sentinellaw07.SubsetReturns'. -/
def subsetReturnsUptoCard : Claim7 := { stood := { row := subsetReturnsUptoRow, standIns := [], harness := (true, "b8146089c02840ed8da23971a0d8cf0f54ffc3db32db18888b4f842f9489ebcd"), looks := false }, kinds := [], alts := [], laidByText := true, laidKinds := [.data, .data, .data], laidTests := true, laidLooks := .later }
def SubsetReturnsUptoCardSaid : Prop := Claim7.holds Tryd.pinned (.plain (OpenSpec.upto subsetReturnsSpec)) subsetReturnsUptoCard
end Rows
end Go.Proofs.YtlaagjmfgaccjaaDoor
