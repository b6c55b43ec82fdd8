/- List, Min. -/
import Derived.Test.YtdjhfndoheoljaaH
import Derived.RangeFuncBox
import Derived.RangeFuncWrites
import Derived.Maps.AppendAt
namespace Go.Proofs.Ytdjhfndoheoljaa
open Go Go.RowKit Go.Shelf
set_option maxRecDepth 100000
attribute [local go_sem] Oper.semAt_some
theorem info_int : (Try.prog.info? 3).map (fun i => (i.zero, i.size, i.bytes)) = some (some (.int .i64 0), 1, 8) := by kernel_rfl
/-- Numbers as cells. -/
def ivs (l : List Nat) : List Value := l.map fun x : Nat => .int .i64 (x : Int)
/-- The smallest element and true, or 0 and false. -/
def minOf : List Nat → Nat × Bool
  | [] => (0, false)
  | x :: _ => (x, true)
theorem minOf_pre {l : List Nat} {x : Nat} (h : [x] <+: l) : minOf l = (x, true) := by
  obtain ⟨t, rfl⟩ := h
  rfl
theorem boxed_row {W : World} {B : Nat} {t : TypeId} {v : Value} {row : Option Nat} (h : Boxed W B t v) (hr : ∀ r, row = some r → ∃ o : Obj, W.heap[r]? = some o ∧ o.isCells = false) : some B ≠ row := by
  intro e
  obtain ⟨o, ho, hc⟩ := hr B e.symm
  rw [show W.heap[B]? = _ from h] at ho
  cases ho
  cases hc
theorem cell_alloc_m {W : World} {a : Addr} {v : Value} (o : Obj) (h : W.cell? a = some v) : (W.alloc o).cell? a = some v := cell_kept h (World.grownBy_alloc W o none) (fun r e => by cases e)
end Go.Proofs.Ytdjhfndoheoljaa
