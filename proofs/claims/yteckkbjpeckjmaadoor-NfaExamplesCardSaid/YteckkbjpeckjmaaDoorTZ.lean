/- What the frame of NfaTrims needs of the one listed table. -/
import Derived.Test.YteckkbjpeckjmaaDoorFZ
import Derived.Test.YteckkbjpeckjmaaDoorTQ
import Derived.Test.YteckkbjpeckjmaaDoorTie
import Derived.Test.YteckkbjpeckjmaaDoorCards
import Derived.LaidMore
import Derived.ChangeOld
import Derived.Lib.LaidTab
import Derived.Stop.Joined
import Derived.Stop.LaidErr
import Derived.SevenTiedAt
namespace Go.Proofs.YteckkbjpeckjmaaDoor.Nf
open Go Go.ChangeShapes Go.WideShapes Go.ChangeAt Go.RowKit Go.Proofs.YteckkbjpeckjmaaDoor
set_option linter.unusedVariables false
set_option maxRecDepth 100000
theorem gTabT : Tryd.prog.globalNamed "math/bits.deBruijn64tab" = some 0 := by kernel_rfl
theorem gTabTypeT : (Tryd.prog.globals[0]?).map (·.type) = some 156 := by kernel_rfl
theorem cellsTabT : Tryd.prog.cellsOf 156 = 64 := by kernel_rfl
theorem cellsU8T : Tryd.prog.cellsOf 5 = 1 := by kernel_rfl
/-- The sum of the harness, as the cards bear it. -/
def harnessSumT : String := Rows.nfaTrimsCard.stood.harness.2
/-- What the row lists. -/
def laidTabT : List (String × DataW Unit) := [("math/bits.deBruijn64tab", Rows.laid_math_bits_deBruijn64tab)]
theorem laid_eqT : (Rows.laid_math_bits_deBruijn64tab : DataW Unit) = Lib.tabData .u8 (Lib.deBruijn64tab.map fun x : Nat => (x : Int)) := by rfl
theorem tab_of_laidT {W : World} (h : laidMet Tryd.prog laidTabT W) : Tab W := by
  unfold laidTabT at h
  rw [laid_eqT] at h
  have hT := Lib.tabIs_of_head gTabT gTabTypeT Tryd.underlying156 Tryd.underlying5 cellsU8T cellsTabT h
  have hc : ∀ j, j < 64 → W.cell? ⟨0, j, none⟩ = some (.int .u8 ((Lib.deBruijn64tab.getD j 0 : Nat) : Int)) := by
    intro j hj
    rw [hT.cell gTabT j (by rw [List.length_map]; exact hj)]
    have : j < Lib.deBruijn64tab.length := hj
    simp [this]
  refine ⟨?_, hc⟩
  exact World.block_lt_of_cell? W _ (hc 0 (by decide))
theorem door_metT (os : Os) (args : Array Value) : laidMetH Tryd.prog laidTabT ((World.doorLaid Tryd.prog 400 os).forCall (fun _ _ => 0) ⟨#[], args, []⟩).memory :=
  laidMetH_of_parts3 (fuel := 8) (laidMet_of_run' 8 (by kernel_rfl) (by kernel_rfl)) (by kernel_rfl) (by kernel_rfl)
end Go.Proofs.YteckkbjpeckjmaaDoor.Nf
