/- math/bits.TrailingZeros64. -/
import Derived.Test.YtdjhfndoheoljaaC
import Derived.Test.YtdjhfndoheoljaaE
import Derived.Shelf.Spec.TrailingZeros
namespace Go.Proofs.Ytdjhfndoheoljaa
open Go Go.RowKit
set_option maxRecDepth 100000
end Go.Proofs.Ytdjhfndoheoljaa
