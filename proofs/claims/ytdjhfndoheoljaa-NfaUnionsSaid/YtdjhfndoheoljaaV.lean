/- Contracts over a stock of sets that are readable in the world at hand. -/
import Derived.Test.YtdjhfndoheoljaaQ
import Derived.Test.YtdjhfndoheoljaaL
namespace Go.Proofs.Ytdjhfndoheoljaa
open Go Go.RowKit
set_option maxRecDepth 100000
namespace Env
variable {w0 w w' : World} {S : List (Option Addr × Nat × List Nat)}
end Env
section
variable {w0 w : World} {S : List (Option Addr × Nat × List Nat)} {A B : Option Addr} {c d : Nat} {xs ys : List Nat}
/-- The slices that are handed to Long. -/
def slices (L : List (Option Addr × Nat × Nat)) : Array Value := (L.map fun q => Value.slice q.1 q.2.1 q.2.2).toArray
end
end Go.Proofs.Ytdjhfndoheoljaa
