/- math/bits.TrailingZeros64. -/
import Derived.Test.YtbmamkackigdaaaC
import Derived.Test.YtbmamkackigdaaaE
import Derived.Shelf.Spec.TrailingZeros
namespace Go.Proofs.Ytbmamkackigdaaa
open Go Go.RowKit
set_option maxRecDepth 100000
end Go.Proofs.Ytbmamkackigdaaa
