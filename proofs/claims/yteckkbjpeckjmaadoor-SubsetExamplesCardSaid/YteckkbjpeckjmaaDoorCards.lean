/-
  DERIVED. GIVEN WITH THE SEED: THE CARDS: each row of YteckkbjpeckjmaaDoorRows.lean that lists a variable, with what it lists TIED to the program's text (the seventh form; the later family's looks); each row that meets fmt, with fmt's text TOLD by the authors' own Lean function (tested against real Go, not proved from fmt's source: count such statements apart). THE CARD IS WHAT COUNTS. Prove the row's statement (the work); the ties are given (YteckkbjpeckjmaaDoorTie.lean); close each card by the builder's one call (the guide's Derived/Test/ToyasCard.lean, 'card_holds'). Laid BY PROGRAM, IN A SANDBOX (cutbox-door.mjs). By AI agents, Wed Nov 11 2026. No macro, syntax, notation, axiom, sorry.
-/
import Derived.Test.YteckkbjpeckjmaaDoorRows
import GoSem.ClaimSeven
namespace Go.Proofs.YteckkbjpeckjmaaDoor
namespace Rows

/-- THE TIED CARD OF 'sentinellaw06.NfaExamples'. -/
def nfaExamplesCard : Claim7 := { stood := { row := nfaExamplesRow, standIns := [], harness := (true, "de1e90d8a1dac1d8d50b81b111d92c1a8e238d6d353eb7b597a6ac4f418fa381"), looks := false }, kinds := [], alts := [], laidByText := true, laidKinds := [.data], laidTests := true, laidLooks := .later }
def NfaExamplesCardSaid : Prop := Claim7.holds Tryd.pinned (.plain (OpenSpec.ofChange nfaExamplesSpec)) nfaExamplesCard

/-- THE TIED CARD OF 'sentinellaw06.NfaTrims'. -/
def nfaTrimsCard : Claim7 := { stood := { row := nfaTrimsRow, standIns := [], harness := (true, "de1e90d8a1dac1d8d50b81b111d92c1a8e238d6d353eb7b597a6ac4f418fa381"), looks := false }, kinds := [], alts := [], laidByText := true, laidKinds := [.data], laidTests := true, laidLooks := .later }
def NfaTrimsCardSaid : Prop := Claim7.holds Tryd.pinned (.plain (OpenSpec.ofChange nfaTrimsSpec)) nfaTrimsCard

/-- THE TIED CARD OF 'sentinellaw07.SubsetExamples'. -/
def subsetExamplesCard : Claim7 := { stood := { row := subsetExamplesRow, standIns := [], harness := (true, "de1e90d8a1dac1d8d50b81b111d92c1a8e238d6d353eb7b597a6ac4f418fa381"), looks := false }, kinds := [], alts := [], laidByText := true, laidKinds := [.data, .data, .data], laidTests := true, laidLooks := .later }
def SubsetExamplesCardSaid : Prop := Claim7.holds Tryd.pinned (.plain (OpenSpec.ofChange subsetExamplesSpec)) subsetExamplesCard

/-- THE SECOND FORM's CARD OF 'sentinellaw06.NfaExamples'. -/
def nfaExamplesUptoCard : Claim7 := { stood := { row := nfaExamplesUptoRow, standIns := [], harness := (true, "de1e90d8a1dac1d8d50b81b111d92c1a8e238d6d353eb7b597a6ac4f418fa381"), looks := false }, kinds := [], alts := [], laidByText := true, laidKinds := [.data], laidTests := true, laidLooks := .later }
def NfaExamplesUptoCardSaid : Prop := Claim7.holds Tryd.pinned (.plain (OpenSpec.upto nfaExamplesSpec)) nfaExamplesUptoCard

/-- THE SECOND FORM's CARD OF 'sentinellaw06.NfaTrims'. -/
def nfaTrimsUptoCard : Claim7 := { stood := { row := nfaTrimsUptoRow, standIns := [], harness := (true, "de1e90d8a1dac1d8d50b81b111d92c1a8e238d6d353eb7b597a6ac4f418fa381"), looks := false }, kinds := [], alts := [], laidByText := true, laidKinds := [.data], laidTests := true, laidLooks := .later }
def NfaTrimsUptoCardSaid : Prop := Claim7.holds Tryd.pinned (.plain (OpenSpec.upto nfaTrimsSpec)) nfaTrimsUptoCard

/-- THE SECOND FORM's CARD OF 'sentinellaw07.SubsetExamples'. -/
def subsetExamplesUptoCard : Claim7 := { stood := { row := subsetExamplesUptoRow, standIns := [], harness := (true, "de1e90d8a1dac1d8d50b81b111d92c1a8e238d6d353eb7b597a6ac4f418fa381"), looks := false }, kinds := [], alts := [], laidByText := true, laidKinds := [.data, .data, .data], laidTests := true, laidLooks := .later }
def SubsetExamplesUptoCardSaid : Prop := Claim7.holds Tryd.pinned (.plain (OpenSpec.upto subsetExamplesSpec)) subsetExamplesUptoCard
end Rows
end Go.Proofs.YteckkbjpeckjmaaDoor
