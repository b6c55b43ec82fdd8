/- Long: whether a set has more words than the statements examine. -/
import Derived.Test.YtdjhfndoheoljaaP
namespace Go.Proofs.Ytdjhfndoheoljaa
open Go Go.RowKit
set_option maxRecDepth 100000
/-- Slices of sets as they are handed to a variadic function. -/
def Sets (w : World) (A : Option Addr) (n : Nat) (a : Nat → Option Addr) (l c : Nat → Nat) : Prop := Vals w A n fun j => .slice (a j) (l j) (c j)
end Go.Proofs.Ytdjhfndoheoljaa
