/- Comparisons: cmp.Compare, slices.Compare, the reference's Ints and Same; Has. -/
import Derived.Test.YtdjhfndoheoljaaI
namespace Go.Proofs.Ytdjhfndoheoljaa
open Go Go.RowKit
set_option maxRecDepth 100000
/-- The order of two lists of numbers: -1, 0 or 1. -/
def cmpL : List Int → List Int → Int
  | [], [] => 0
  | [], _ :: _ => -1
  | _ :: _, [] => 1
  | a :: s, b :: t => if a < b then -1 else if b < a then 1 else cmpL s t
theorem nd_get (l : List Int) (k : Nat) (h : k < l.length) : l.drop k = nd l k :: l.drop (k + 1) := by
  rw [List.drop_eq_getElem_cons h]
  simp [nd, h]
theorem cmpL_step {l m : List Int} {k : Nat} (h : k < l.length) (h' : k < m.length) :
    cmpL (l.drop k) (m.drop k) = if nd l k < nd m k then -1 else if nd m k < nd l k then 1 else cmpL (l.drop (k + 1)) (m.drop (k + 1)) := by
  rw [nd_get l k h, nd_get m k h', cmpL]
theorem cmpL_end {l m : List Int} {k : Nat} (hk : k ≤ l.length) (hk' : k ≤ m.length) (h : k = l.length ∨ k = m.length) :
    cmpL (l.drop k) (m.drop k) = if l.length < m.length then -1 else if m.length < l.length then 1 else 0 := by
  rcases h with rfl | rfl
  · rcases Nat.lt_or_eq_of_le hk' with h1 | h1
    · rw [nd_get m _ h1, List.drop_length, if_pos h1]
      rfl
    · rw [List.drop_length, h1, List.drop_length]
      simp [cmpL]
  · rcases Nat.lt_or_eq_of_le hk with h1 | h1
    · rw [nd_get l _ h1, List.drop_length, if_neg (by omega), if_pos h1]
      rfl
    · rw [List.drop_length, h1, List.drop_length]
      simp [cmpL]
end Go.Proofs.Ytdjhfndoheoljaa
