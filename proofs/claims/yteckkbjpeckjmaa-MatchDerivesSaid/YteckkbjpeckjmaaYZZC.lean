/- The reference's Block. -/
import Derived.Test.YteckkbjpeckjmaaYZZB
namespace Go.Proofs.Yteckkbjpeckjmaa.Rx
open Go Go.RowKit Go.Proofs.Yteckkbjpeckjmaa
set_option linter.unusedVariables false
set_option maxRecDepth 100000
section
variable (A : Option Addr) (t : Ex) (k c : Nat) (v : Int) (w : World)
end
end Go.Proofs.Yteckkbjpeckjmaa.Rx
